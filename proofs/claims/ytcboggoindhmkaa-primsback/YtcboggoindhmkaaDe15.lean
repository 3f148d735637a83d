/- The program's take of layer 15, where an element is taken. -/
import Derived.Test.YtcboggoindhmkaaDd15
namespace Go.Proofs.Ytcboggoindhmkaa
open Go.RowKit

theorem Bx.drew {B : Nat} {a0 a1 a2 a3 a4 : Value} {w : World} (h : Bx B a0 a1 a2 a3 a4 w) (q : Nat) : Bx B a0 a1 a2 a3 a4 (w.drewN q) := ⟨h.c0, h.c1, h.c2, h.c3, h.c4, h.f0, h.f1, h.f2, h.f3, h.f4⟩
abbrev T5 (t : Int) (m : Bool) : Obj := .cells #[.int .i64 (t / 64), .bool m, .int .i64 (t % 32), .string ⟨#[]⟩, .slice none 0 0] 26
set_option maxHeartbeats 12800000 in
theorem ptake_in (s : ByteArray) (k n : Nat) (lv : Int) (w : World) (hs2 : s.size ≤ 10000) (t : Int) (ht : (nums s).getD 0 0 = t) (ht2 : t % 32 ≠ 31) (hL : lenB ((nums s).drop 1) = ((n : Int), (k : Int), 0)) (h2 : 1 + k + n ≤ s.size) (h3 : 1 + k + n ≤ 4000) (hl0 : 1 ≤ lv) (hl1 : lv ≤ 12)
    (m : Bool) (hm : decide (t / 32 % 2 = 1) = m) (y : Int) (l : List El) (TO X : Int) (E : El)
    (hp : (m = false ∧ TO = ((1 + k + n : Nat) : Int) ∧ X = 0 ∧ E = .mk (t / 64) false (t % 32) (s.extract (1 + k) (1 + k + n)) []) ∨ (m = true ∧ ((lv = 12 ∧ 0 < n ∧ TO = 0 ∧ X = 153 ∧ E = el0) ∨ ((¬ lv = 12 ∨ n = 0) ∧ (∀ W : World, Calls Try.prog 49 #[.string (s.extract (1 + k) (1 + k + n)), .int .i64 (lv + 1)] W fun r w' => ∃ v, r = .returned (.tuple #[v, .int .i64 y]) ∧ EsP (In W.heap.size w') w' v l ∧ Below W.heap.size W w') ∧ ((y ≠ 0 ∧ TO = 0 ∧ X = y ∧ E = el0) ∨ (y = 0 ∧ TO = ((1 + k + n : Nat) : Int) ∧ X = 0 ∧ E = .mk (t / 64) true (t % 32) ⟨#[]⟩ l)))))) :
    Calls Try.prog 38 #[.string s, .int .i64 lv] w fun r w' => ∃ v, r = .returned (.tuple #[v, .int .i64 TO, .int .i64 X]) ∧ ElP (In w.heap.size w') w' E v ∧ Below w.heap.size w w' := by
  have hs : 0 < s.size := by omega
  have e1 := toList_some hs
  have hat := nums_at s 0 hs
  obtain ⟨t0, t1⟩ := getD_nums s 0
  rw [ht] at hat t0 t1
  have hb : (s[0].toNat : Int) = t := hat.symm
  have o1 := u8_and31 t t0 t1
  have o2 : ¬ (30 : Int) < t % 32 := by omega
  have o3 := u8_and32 t t0 t1
  have o4 : (t / 32 % 2 * 32 != 0) = m := by
    rw [← hm]
    by_cases h : t / 32 % 2 = 1
    · rw [h]; rfl
    · have : t / 32 % 2 = 0 := by omega
      rw [this]; rfl
  have HLN := hide (length_any (s.extract 1 s.size) (w.alloc Z5))
  rw [nums_drop, hL] at HLN
  simp only at HLN
  have hbx := Bx.new w (.int .i64 0) (.bool false) (.int .i64 0) (.string ⟨#[]⟩) (.slice none 0 0) 26
  have HBX := hide hbx
  have l1 : (1 : Int) ≤ (s.size : Int) := by omega
  have w1 : IntKind.i64.wrap (1 + (k : Int)) = 1 + (k : Int) := wrap_in (by omega) (by omega)
  have w2 : IntKind.i64.wrap (1 + (k : Int) + (n : Int)) = 1 + (k : Int) + (n : Int) := wrap_in (by omega) (by omega)
  have w6 : IntKind.i64.wrap (lv + 1) = lv + 1 := wrap_in (by omega) (by omega)
  have z2 : ¬ (s.size : Int) < 1 + (k : Int) + (n : Int) := by omega
  have z3 : ¬ (4000 : Int) < 1 + (k : Int) + (n : Int) := by omega
  have s1 : 1 + (k : Int) ≤ 1 + (k : Int) + (n : Int) := by omega
  have s2 : 1 + (k : Int) + (n : Int) ≤ (s.size : Int) := by omega
  have s3 : (0 : Int) ≤ 1 + (k : Int) := by omega
  have hz : (w.alloc Z5).heap.size = w.heap.size + 1 := by simp
  have k1 : IntKind.i64.wrap (t / 64) = t / 64 := wrap_in (by omega) (by omega)
  have k2 : IntKind.i64.wrap (t % 32) = t % 32 := wrap_in (by omega) (by omega)
  clear hat ht ht2 hL hbx hm
  have HP := hide hp
  clear hp
  go_enter Try.func38, Try.ntmps38
  go_upto_region 13 with (go_at_call 47; refine (unhide HLN).mono ?_; rintro r w1 ⟨rfl, b1⟩; have bx := (unhide HBX).below b1; have BX := hide bx; clear bx; have B1 := hide b1; clear b1)
  go_cut [12] from 46 to 58 (fun v12 wx => v12 = .pointer (some ⟨w1.heap.size, 0, none⟩) ∧ ∃ q2, wx = (w1.alloc (T5 t m)).drewN q2)
  case first =>
    go_region
    all_goals (go_wp2_with fail; go_meet; exact ⟨rfl, _, rfl⟩)
  case rest =>
    obtain ⟨rfl, q2, rfl⟩ := hcut
    have hz1 : w.heap.size + 1 ≤ w1.heap.size := by have := (unhide B1).size; omega
    have bw3 : Below w.heap.size w ((w1.alloc (T5 t m)).drewN q2) := below_drewN (((Below.one w Z5).trans ((unhide B1).mono (by rw [hz]; omega))).trans ((Below.one w1 _).mono (by omega))) q2
    have bz := (unhide BX).below (below_drewN (Below.one w1 (T5 t m)) q2)
    have be := (Bx.new w1 (.int .i64 (t / 64)) (.bool m) (.int .i64 (t % 32)) (.string ⟨#[]⟩) (.slice none 0 0) 26).drew q2
    have hz3 : ((w1.alloc (T5 t m)).drewN q2).heap.size = w1.heap.size + 1 := by simp
    generalize (w1.alloc (T5 t m)).drewN q2 = W3 at *
    clear HLN HBX B1 BX o1 o3 o4 k1 k2 hz
    generalize w1.heap.size = b at *
    have n1 : ¬ w.heap.size = b := by omega
    have n2 : ¬ b = w.heap.size := by omega
    have BW := hide bw3
    have HZ := hide hz3
    have HZ1 := hide hz1
    have HBE := hide be
    have HBZ := hide bz
    clear bw3 hz3 hz1 be bz
    have x1 := (unhide HBE).c1
    rcases unhide HP with ⟨rfl, rfl, rfl, rfl⟩ | ⟨rfl, hq⟩
    · have HC := hide (clone_any (s.extract (1 + k) (1 + k + n)) W3 (by rw [ByteArray.size_extract]; omega))
      clear HP
      go_wp2_with (go_at_call 48; refine (unhide HC).mono ?_; rintro r w4 ⟨rfl, b4⟩; have by_ := (unhide HBE).below b4; have bz_ := (unhide HBZ).below b4; have ec0 := by_.c0; have ec1 := by_.c1; have ec2 := by_.c2; have ec3 := by_.c3; have ec4 := by_.c4; have ef0 := by_.f0; have ef1 := by_.f1; have ef2 := by_.f2; have ef3 := by_.f3; have ef4 := by_.f4; have zc0 := bz_.c0; have zc1 := bz_.c1; have zc2 := bz_.c2; have zc3 := bz_.c3; have zc4 := bz_.c4; have zf0 := bz_.f0; have zf1 := bz_.f1; have zf2 := bz_.f2; have zf3 := bz_.f3; have zf4 := bz_.f4; clear by_ bz_; have B4 := hide b4; clear b4)
      have bw : Below w.heap.size w ((((((w4.setCell ⟨b, 3, none⟩ (.string (s.extract (1 + k) (1 + k + n)))).setCell ⟨w.heap.size, 0, none⟩ (.int .i64 (t / 64))).setCell ⟨w.heap.size, 1, none⟩ (.bool false)).setCell ⟨w.heap.size, 2, none⟩ (.int .i64 (t % 32))).setCell ⟨w.heap.size, 3, none⟩ (.string (s.extract (1 + k) (1 + k + n)))).setCell ⟨w.heap.size, 4, none⟩ (.slice none 0 0)) := set5_below _ _ _ _ _ (Nat.le_refl _) (((unhide BW).trans ((unhide B4).mono (by rw [unhide HZ]; have := unhide HZ1; omega))).setCell (p := ⟨b, 3, none⟩) (by show w.heap.size ≤ b; have := unhide HZ1; omega) _)
      have hsz : ((((((w4.setCell ⟨b, 3, none⟩ (.string (s.extract (1 + k) (1 + k + n)))).setCell ⟨w.heap.size, 0, none⟩ (.int .i64 (t / 64))).setCell ⟨w.heap.size, 1, none⟩ (.bool false)).setCell ⟨w.heap.size, 2, none⟩ (.int .i64 (t % 32))).setCell ⟨w.heap.size, 3, none⟩ (.string (s.extract (1 + k) (1 + k + n)))).setCell ⟨w.heap.size, 4, none⟩ (.slice none 0 0)).heap.size = (w4.setCell ⟨b, 3, none⟩ (.string (s.extract (1 + k) (1 + k + n)))).heap.size := by simp
      generalize hW : ((((((w4.setCell ⟨b, 3, none⟩ (.string (s.extract (1 + k) (1 + k + n)))).setCell ⟨w.heap.size, 0, none⟩ (.int .i64 (t / 64))).setCell ⟨w.heap.size, 1, none⟩ (.bool false)).setCell ⟨w.heap.size, 2, none⟩ (.int .i64 (t % 32))).setCell ⟨w.heap.size, 3, none⟩ (.string (s.extract (1 + k) (1 + k + n)))).setCell ⟨w.heap.size, 4, none⟩ (.slice none 0 0)) = W9 at *
      obtain ⟨r0, r1, r2, r3, r4, ro⟩ := set5 _ _ _ _ _ ((World.cell?_setCell_other _ _ _ _ (fun e => n2 (congrArg Addr.block e))).trans zc0) ((World.cell?_setCell_other _ _ _ _ (fun e => n2 (congrArg Addr.block e))).trans zc1) ((World.cell?_setCell_other _ _ _ _ (fun e => n2 (congrArg Addr.block e))).trans zc2) ((World.cell?_setCell_other _ _ _ _ (fun e => n2 (congrArg Addr.block e))).trans zc3) ((World.cell?_setCell_other _ _ _ _ (fun e => n2 (congrArg Addr.block e))).trans zc4) hW
      clear hW
      refine bodyPost_ret (by simp [results, Try.results38, go_sem, r0, r1, r2, r3, r4]; try rfl) rfl ?_
      exact ⟨_, ret_ve3 (by omega), plain_P _ _ _ _ _, bw⟩
    · rcases hq with ⟨d1, d2, rfl, rfl, rfl⟩ | ⟨d0, HA0, hy⟩
      · have e1 : (lv == 12) = true := by simpa using d1
        have e2 : (0 : Int) < (n : Int) := by omega
        have zc0 := (unhide HBZ).c0; have zc1 := (unhide HBZ).c1; have zc2 := (unhide HBZ).c2; have zc3 := (unhide HBZ).c3; have zc4 := (unhide HBZ).c4; have zf0 := (unhide HBZ).f0; have zf1 := (unhide HBZ).f1; have zf2 := (unhide HBZ).f2; have zf3 := (unhide HBZ).f3; have zf4 := (unhide HBZ).f4
        clear HP d1 d2
        go_wp2
        have bw : Below w.heap.size w (((((W3.setCell ⟨w.heap.size, 0, none⟩ (.int .i64 0)).setCell ⟨w.heap.size, 1, none⟩ (.bool false)).setCell ⟨w.heap.size, 2, none⟩ (.int .i64 0)).setCell ⟨w.heap.size, 3, none⟩ (.string ⟨#[]⟩)).setCell ⟨w.heap.size, 4, none⟩ (.slice none 0 0)) := set5_below _ _ _ _ _ (Nat.le_refl _) (unhide BW)
        have hsz : (((((W3.setCell ⟨w.heap.size, 0, none⟩ (.int .i64 0)).setCell ⟨w.heap.size, 1, none⟩ (.bool false)).setCell ⟨w.heap.size, 2, none⟩ (.int .i64 0)).setCell ⟨w.heap.size, 3, none⟩ (.string ⟨#[]⟩)).setCell ⟨w.heap.size, 4, none⟩ (.slice none 0 0)).heap.size = W3.heap.size := by simp
        generalize hW : (((((W3.setCell ⟨w.heap.size, 0, none⟩ (.int .i64 0)).setCell ⟨w.heap.size, 1, none⟩ (.bool false)).setCell ⟨w.heap.size, 2, none⟩ (.int .i64 0)).setCell ⟨w.heap.size, 3, none⟩ (.string ⟨#[]⟩)).setCell ⟨w.heap.size, 4, none⟩ (.slice none 0 0)) = W9 at *
        obtain ⟨r0, r1, r2, r3, r4, ro⟩ := set5 _ _ _ _ _ zc0 zc1 zc2 zc3 zc4 hW
        clear hW
        refine bodyPost_ret (by simp [results, Try.results38, go_sem, r0, r1, r2, r3, r4]; try rfl) rfl ?_
        exact ⟨_, rfl, el0_P _ _, bw⟩
      · have HA := hide HA0
        clear HA0 HP
        have HG : Hid ((lv == 12) = false ∨ ((lv == 12) = true ∧ decide ((0 : Int) < (n : Int)) = false)) := by
          show _ ∨ _
          rcases d0 with d | d
          · exact .inl (by simpa using d)
          · by_cases d3 : lv = 12
            · exact .inr ⟨by simpa using d3, by simp [d]⟩
            · exact .inl (by simpa using d3)
        clear d0
        rcases hy with ⟨hy0, rfl, rfl, rfl⟩ | ⟨rfl, rfl, rfl, rfl⟩
        · have hy1 : (X == 0) = false := by simpa using hy0
          rcases unhide HG with e1 | ⟨e1, e2⟩
          · clear HG
            go_wp2_with (go_at_call 49; refine (unhide HA W3).mono ?_; rintro r w4 ⟨v4, rfl, p4, b4⟩; obtain ⟨ad4, cap4, rfl⟩ := p4.shape; have by_ := (unhide HBE).below b4; have bz_ := (unhide HBZ).below b4; have ec0 := by_.c0; have ec1 := by_.c1; have ec2 := by_.c2; have ec3 := by_.c3; have ec4 := by_.c4; have ef0 := by_.f0; have ef1 := by_.f1; have ef2 := by_.f2; have ef3 := by_.f3; have ef4 := by_.f4; have zc0 := bz_.c0; have zc1 := bz_.c1; have zc2 := bz_.c2; have zc3 := bz_.c3; have zc4 := bz_.c4; have zf0 := bz_.f0; have zf1 := bz_.f1; have zf2 := bz_.f2; have zf3 := bz_.f3; have zf4 := bz_.f4; clear by_ bz_; have B4 := hide b4; clear b4; have PP := hide p4; clear p4)
            have bw : Below w.heap.size w ((((((w4.setCell ⟨b, 4, none⟩ (.slice ad4 l.length cap4)).setCell ⟨w.heap.size, 0, none⟩ (.int .i64 0)).setCell ⟨w.heap.size, 1, none⟩ (.bool false)).setCell ⟨w.heap.size, 2, none⟩ (.int .i64 0)).setCell ⟨w.heap.size, 3, none⟩ (.string ⟨#[]⟩)).setCell ⟨w.heap.size, 4, none⟩ (.slice none 0 0)) := set5_below _ _ _ _ _ (Nat.le_refl _) (((unhide BW).trans ((unhide B4).mono (by rw [unhide HZ]; have := unhide HZ1; omega))).setCell (p := ⟨b, 4, none⟩) (by show w.heap.size ≤ b; have := unhide HZ1; omega) _)
            have hsz : ((((((w4.setCell ⟨b, 4, none⟩ (.slice ad4 l.length cap4)).setCell ⟨w.heap.size, 0, none⟩ (.int .i64 0)).setCell ⟨w.heap.size, 1, none⟩ (.bool false)).setCell ⟨w.heap.size, 2, none⟩ (.int .i64 0)).setCell ⟨w.heap.size, 3, none⟩ (.string ⟨#[]⟩)).setCell ⟨w.heap.size, 4, none⟩ (.slice none 0 0)).heap.size = (w4.setCell ⟨b, 4, none⟩ (.slice ad4 l.length cap4)).heap.size := by simp
            generalize hW : ((((((w4.setCell ⟨b, 4, none⟩ (.slice ad4 l.length cap4)).setCell ⟨w.heap.size, 0, none⟩ (.int .i64 0)).setCell ⟨w.heap.size, 1, none⟩ (.bool false)).setCell ⟨w.heap.size, 2, none⟩ (.int .i64 0)).setCell ⟨w.heap.size, 3, none⟩ (.string ⟨#[]⟩)).setCell ⟨w.heap.size, 4, none⟩ (.slice none 0 0)) = W9 at *
            obtain ⟨r0, r1, r2, r3, r4, ro⟩ := set5 _ _ _ _ _ ((World.cell?_setCell_other _ _ _ _ (fun e => n2 (congrArg Addr.block e))).trans zc0) ((World.cell?_setCell_other _ _ _ _ (fun e => n2 (congrArg Addr.block e))).trans zc1) ((World.cell?_setCell_other _ _ _ _ (fun e => n2 (congrArg Addr.block e))).trans zc2) ((World.cell?_setCell_other _ _ _ _ (fun e => n2 (congrArg Addr.block e))).trans zc3) ((World.cell?_setCell_other _ _ _ _ (fun e => n2 (congrArg Addr.block e))).trans zc4) hW
            clear hW
            refine bodyPost_ret (by simp [results, Try.results38, go_sem, r0, r1, r2, r3, r4]; try rfl) rfl ?_
            exact ⟨_, rfl, el0_P _ _, bw⟩
          · clear HG
            have e3 : ¬ (0 : Int) < (n : Int) := by simpa using e2
            go_wp2_with (go_at_call 49; refine (unhide HA W3).mono ?_; rintro r w4 ⟨v4, rfl, p4, b4⟩; obtain ⟨ad4, cap4, rfl⟩ := p4.shape; have by_ := (unhide HBE).below b4; have bz_ := (unhide HBZ).below b4; have ec0 := by_.c0; have ec1 := by_.c1; have ec2 := by_.c2; have ec3 := by_.c3; have ec4 := by_.c4; have ef0 := by_.f0; have ef1 := by_.f1; have ef2 := by_.f2; have ef3 := by_.f3; have ef4 := by_.f4; have zc0 := bz_.c0; have zc1 := bz_.c1; have zc2 := bz_.c2; have zc3 := bz_.c3; have zc4 := bz_.c4; have zf0 := bz_.f0; have zf1 := bz_.f1; have zf2 := bz_.f2; have zf3 := bz_.f3; have zf4 := bz_.f4; clear by_ bz_; have B4 := hide b4; clear b4; have PP := hide p4; clear p4)
            have bw : Below w.heap.size w ((((((w4.setCell ⟨b, 4, none⟩ (.slice ad4 l.length cap4)).setCell ⟨w.heap.size, 0, none⟩ (.int .i64 0)).setCell ⟨w.heap.size, 1, none⟩ (.bool false)).setCell ⟨w.heap.size, 2, none⟩ (.int .i64 0)).setCell ⟨w.heap.size, 3, none⟩ (.string ⟨#[]⟩)).setCell ⟨w.heap.size, 4, none⟩ (.slice none 0 0)) := set5_below _ _ _ _ _ (Nat.le_refl _) (((unhide BW).trans ((unhide B4).mono (by rw [unhide HZ]; have := unhide HZ1; omega))).setCell (p := ⟨b, 4, none⟩) (by show w.heap.size ≤ b; have := unhide HZ1; omega) _)
            have hsz : ((((((w4.setCell ⟨b, 4, none⟩ (.slice ad4 l.length cap4)).setCell ⟨w.heap.size, 0, none⟩ (.int .i64 0)).setCell ⟨w.heap.size, 1, none⟩ (.bool false)).setCell ⟨w.heap.size, 2, none⟩ (.int .i64 0)).setCell ⟨w.heap.size, 3, none⟩ (.string ⟨#[]⟩)).setCell ⟨w.heap.size, 4, none⟩ (.slice none 0 0)).heap.size = (w4.setCell ⟨b, 4, none⟩ (.slice ad4 l.length cap4)).heap.size := by simp
            generalize hW : ((((((w4.setCell ⟨b, 4, none⟩ (.slice ad4 l.length cap4)).setCell ⟨w.heap.size, 0, none⟩ (.int .i64 0)).setCell ⟨w.heap.size, 1, none⟩ (.bool false)).setCell ⟨w.heap.size, 2, none⟩ (.int .i64 0)).setCell ⟨w.heap.size, 3, none⟩ (.string ⟨#[]⟩)).setCell ⟨w.heap.size, 4, none⟩ (.slice none 0 0)) = W9 at *
            obtain ⟨r0, r1, r2, r3, r4, ro⟩ := set5 _ _ _ _ _ ((World.cell?_setCell_other _ _ _ _ (fun e => n2 (congrArg Addr.block e))).trans zc0) ((World.cell?_setCell_other _ _ _ _ (fun e => n2 (congrArg Addr.block e))).trans zc1) ((World.cell?_setCell_other _ _ _ _ (fun e => n2 (congrArg Addr.block e))).trans zc2) ((World.cell?_setCell_other _ _ _ _ (fun e => n2 (congrArg Addr.block e))).trans zc3) ((World.cell?_setCell_other _ _ _ _ (fun e => n2 (congrArg Addr.block e))).trans zc4) hW
            clear hW
            refine bodyPost_ret (by simp [results, Try.results38, go_sem, r0, r1, r2, r3, r4]; try rfl) rfl ?_
            exact ⟨_, rfl, el0_P _ _, bw⟩
        · skip
          rcases unhide HG with e1 | ⟨e1, e2⟩
          · clear HG
            go_wp2_with (go_at_call 49; refine (unhide HA W3).mono ?_; rintro r w4 ⟨v4, rfl, p4, b4⟩; obtain ⟨ad4, cap4, rfl⟩ := p4.shape; have by_ := (unhide HBE).below b4; have bz_ := (unhide HBZ).below b4; have ec0 := by_.c0; have ec1 := by_.c1; have ec2 := by_.c2; have ec3 := by_.c3; have ec4 := by_.c4; have ef0 := by_.f0; have ef1 := by_.f1; have ef2 := by_.f2; have ef3 := by_.f3; have ef4 := by_.f4; have zc0 := bz_.c0; have zc1 := bz_.c1; have zc2 := bz_.c2; have zc3 := bz_.c3; have zc4 := bz_.c4; have zf0 := bz_.f0; have zf1 := bz_.f1; have zf2 := bz_.f2; have zf3 := bz_.f3; have zf4 := bz_.f4; clear by_ bz_; have B4 := hide b4; clear b4; have PP := hide p4; clear p4)
            have bw : Below w.heap.size w ((((((w4.setCell ⟨b, 4, none⟩ (.slice ad4 l.length cap4)).setCell ⟨w.heap.size, 0, none⟩ (.int .i64 (t / 64))).setCell ⟨w.heap.size, 1, none⟩ (.bool true)).setCell ⟨w.heap.size, 2, none⟩ (.int .i64 (t % 32))).setCell ⟨w.heap.size, 3, none⟩ (.string ⟨#[]⟩)).setCell ⟨w.heap.size, 4, none⟩ (.slice ad4 l.length cap4)) := set5_below _ _ _ _ _ (Nat.le_refl _) (((unhide BW).trans ((unhide B4).mono (by rw [unhide HZ]; have := unhide HZ1; omega))).setCell (p := ⟨b, 4, none⟩) (by show w.heap.size ≤ b; have := unhide HZ1; omega) _)
            have hsz : ((((((w4.setCell ⟨b, 4, none⟩ (.slice ad4 l.length cap4)).setCell ⟨w.heap.size, 0, none⟩ (.int .i64 (t / 64))).setCell ⟨w.heap.size, 1, none⟩ (.bool true)).setCell ⟨w.heap.size, 2, none⟩ (.int .i64 (t % 32))).setCell ⟨w.heap.size, 3, none⟩ (.string ⟨#[]⟩)).setCell ⟨w.heap.size, 4, none⟩ (.slice ad4 l.length cap4)).heap.size = (w4.setCell ⟨b, 4, none⟩ (.slice ad4 l.length cap4)).heap.size := by simp
            generalize hW : ((((((w4.setCell ⟨b, 4, none⟩ (.slice ad4 l.length cap4)).setCell ⟨w.heap.size, 0, none⟩ (.int .i64 (t / 64))).setCell ⟨w.heap.size, 1, none⟩ (.bool true)).setCell ⟨w.heap.size, 2, none⟩ (.int .i64 (t % 32))).setCell ⟨w.heap.size, 3, none⟩ (.string ⟨#[]⟩)).setCell ⟨w.heap.size, 4, none⟩ (.slice ad4 l.length cap4)) = W9 at *
            obtain ⟨r0, r1, r2, r3, r4, ro⟩ := set5 _ _ _ _ _ ((World.cell?_setCell_other _ _ _ _ (fun e => n2 (congrArg Addr.block e))).trans zc0) ((World.cell?_setCell_other _ _ _ _ (fun e => n2 (congrArg Addr.block e))).trans zc1) ((World.cell?_setCell_other _ _ _ _ (fun e => n2 (congrArg Addr.block e))).trans zc2) ((World.cell?_setCell_other _ _ _ _ (fun e => n2 (congrArg Addr.block e))).trans zc3) ((World.cell?_setCell_other _ _ _ _ (fun e => n2 (congrArg Addr.block e))).trans zc4) hW
            clear hW
            refine bodyPost_ret (by simp [results, Try.results38, go_sem, r0, r1, r2, r3, r4]; try rfl) rfl ?_
            have hz := unhide HZ
            refine ⟨_, ret_ve3 (by omega), made_P _ _ (unhide PP) (fun g hg => ⟨by have := hg.1; have := unhide HZ1; omega, by rw [hsz]; have := hg.2; simpa using this⟩) (fun g off u hg hc => ?_), bw⟩
            have h5 : W3.heap.size ≤ g := hg.1
            exact ((ro ⟨g, off, none⟩ (by show g ≠ _; have := unhide HZ1; omega)).trans (World.cell?_setCell_other _ _ _ _ (fun e => by have h6 : b = g := congrArg Addr.block e; omega))).trans hc
          · clear HG
            have e3 : ¬ (0 : Int) < (n : Int) := by simpa using e2
            go_wp2_with (go_at_call 49; refine (unhide HA W3).mono ?_; rintro r w4 ⟨v4, rfl, p4, b4⟩; obtain ⟨ad4, cap4, rfl⟩ := p4.shape; have by_ := (unhide HBE).below b4; have bz_ := (unhide HBZ).below b4; have ec0 := by_.c0; have ec1 := by_.c1; have ec2 := by_.c2; have ec3 := by_.c3; have ec4 := by_.c4; have ef0 := by_.f0; have ef1 := by_.f1; have ef2 := by_.f2; have ef3 := by_.f3; have ef4 := by_.f4; have zc0 := bz_.c0; have zc1 := bz_.c1; have zc2 := bz_.c2; have zc3 := bz_.c3; have zc4 := bz_.c4; have zf0 := bz_.f0; have zf1 := bz_.f1; have zf2 := bz_.f2; have zf3 := bz_.f3; have zf4 := bz_.f4; clear by_ bz_; have B4 := hide b4; clear b4; have PP := hide p4; clear p4)
            have bw : Below w.heap.size w ((((((w4.setCell ⟨b, 4, none⟩ (.slice ad4 l.length cap4)).setCell ⟨w.heap.size, 0, none⟩ (.int .i64 (t / 64))).setCell ⟨w.heap.size, 1, none⟩ (.bool true)).setCell ⟨w.heap.size, 2, none⟩ (.int .i64 (t % 32))).setCell ⟨w.heap.size, 3, none⟩ (.string ⟨#[]⟩)).setCell ⟨w.heap.size, 4, none⟩ (.slice ad4 l.length cap4)) := set5_below _ _ _ _ _ (Nat.le_refl _) (((unhide BW).trans ((unhide B4).mono (by rw [unhide HZ]; have := unhide HZ1; omega))).setCell (p := ⟨b, 4, none⟩) (by show w.heap.size ≤ b; have := unhide HZ1; omega) _)
            have hsz : ((((((w4.setCell ⟨b, 4, none⟩ (.slice ad4 l.length cap4)).setCell ⟨w.heap.size, 0, none⟩ (.int .i64 (t / 64))).setCell ⟨w.heap.size, 1, none⟩ (.bool true)).setCell ⟨w.heap.size, 2, none⟩ (.int .i64 (t % 32))).setCell ⟨w.heap.size, 3, none⟩ (.string ⟨#[]⟩)).setCell ⟨w.heap.size, 4, none⟩ (.slice ad4 l.length cap4)).heap.size = (w4.setCell ⟨b, 4, none⟩ (.slice ad4 l.length cap4)).heap.size := by simp
            generalize hW : ((((((w4.setCell ⟨b, 4, none⟩ (.slice ad4 l.length cap4)).setCell ⟨w.heap.size, 0, none⟩ (.int .i64 (t / 64))).setCell ⟨w.heap.size, 1, none⟩ (.bool true)).setCell ⟨w.heap.size, 2, none⟩ (.int .i64 (t % 32))).setCell ⟨w.heap.size, 3, none⟩ (.string ⟨#[]⟩)).setCell ⟨w.heap.size, 4, none⟩ (.slice ad4 l.length cap4)) = W9 at *
            obtain ⟨r0, r1, r2, r3, r4, ro⟩ := set5 _ _ _ _ _ ((World.cell?_setCell_other _ _ _ _ (fun e => n2 (congrArg Addr.block e))).trans zc0) ((World.cell?_setCell_other _ _ _ _ (fun e => n2 (congrArg Addr.block e))).trans zc1) ((World.cell?_setCell_other _ _ _ _ (fun e => n2 (congrArg Addr.block e))).trans zc2) ((World.cell?_setCell_other _ _ _ _ (fun e => n2 (congrArg Addr.block e))).trans zc3) ((World.cell?_setCell_other _ _ _ _ (fun e => n2 (congrArg Addr.block e))).trans zc4) hW
            clear hW
            refine bodyPost_ret (by simp [results, Try.results38, go_sem, r0, r1, r2, r3, r4]; try rfl) rfl ?_
            have hz := unhide HZ
            refine ⟨_, ret_ve3 (by omega), made_P _ _ (unhide PP) (fun g hg => ⟨by have := hg.1; have := unhide HZ1; omega, by rw [hsz]; have := hg.2; simpa using this⟩) (fun g off u hg hc => ?_), bw⟩
            have h5 : W3.heap.size ≤ g := hg.1
            exact ((ro ⟨g, off, none⟩ (by show g ≠ _; have := unhide HZ1; omega)).trans (World.cell?_setCell_other _ _ _ _ (fun e => by have h6 : b = g := congrArg Addr.block e; omega))).trans hc
end Go.Proofs.Ytcboggoindhmkaa
