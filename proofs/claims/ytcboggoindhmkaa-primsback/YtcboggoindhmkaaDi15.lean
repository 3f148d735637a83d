/- The program's lay of layer 15. -/
import Derived.Test.YtcboggoindhmkaaDh15
import Derived.Deep.RegionHeld3
import Derived.Deep.AppendLies
namespace Go.Proofs.Ytcboggoindhmkaa
open Go.RowKit

theorem tag_in {c n : Int} {m : Bool} (c0 : 0 ≤ c) (c1 : c < 4) (n0 : 0 ≤ n) (n1 : n < 31) : 0 ≤ tagE c m n ∧ tagE c m n < 256 := by unfold tagE; split <;> omega
/-- The bytes of an element that may be: its head, its contents, its elements. -/
theorem lay_split (e : El) (hf : fineE e = true) (hs : sizeE e ≤ 4000) : layE e = ([tagE e.cls e.made e.num] ++ lenL (inE e)) ++ nums e.con ++ layE.L e.els ∧ inE e ≤ 4000 := by
  have h0 := size_in e hf
  have h1 := hdr_le (n := inE e) (by omega)
  refine ⟨?_, h1.1⟩
  cases e with
  | mk c m n s els =>
    obtain ⟨f0, _, _, _, _, fm, fn⟩ := fine_parts hf
    cases m
    · rw [fn rfl, layE_plain, hd_lenL]
      simp [layE.L, inE, tagE]
    · have hz := fm rfl
      have hn : nums s = [] := List.eq_nil_of_length_eq_zero (by rw [nums_length, hz])
      have hin : inE (.mk c true n s els) = szL els := rfl
      rw [hin] at h1 ⊢
      have h2 : sumS els ≤ 4000 := by
        have := h1.1
        unfold szL at this
        split at this <;> omega
      have h3 : szL els = (layE.L els).length := by
        unfold szL
        rw [if_pos h2, layL_len_of els fun e he => lay_len e (fineL_mem els f0 e he) (by have := sumS_mem els e he; omega)]
      rw [layE_made, hd_lenL, h3]
      simp [hn, tagE]
theorem strCells_nums (s : ByteArray) : Lib.strCells s = (nums s).map (Value.int .u8) := by
  unfold Lib.strCells nums
  rw [List.map_map]
  rfl
/-- Where a row of bytes and an element's box lie apart, behind a world. -/
structure Ls (B b : Nat) (w0 : World) (a0 a1 a2 a3 a4 v : Value) (Y : List Int) (w : World) : Prop where
  own : Ob B v Y w
  bel : Below B w0 w
  box : Bx b a0 a1 a2 a3 a4 w
  big : B ≤ w.heap.size
  lt : b < w.heap.size
  ne : v.ownBlock ≠ some b
theorem Ls.gr {B b : Nat} {w0 w w2 : World} {a0 a1 a2 a3 a4 v : Value} {Y : List Int} (h : Ls B b w0 a0 a1 a2 a3 a4 v Y w) (g : Gr w w2) : Ls B b w0 a0 a1 a2 a3 a4 v Y w2 :=
  ⟨h.own.below g.below, h.bel.trans (g.below.mono h.big), h.box.below g.below, Nat.le_trans h.big g.size, Nat.lt_of_lt_of_le h.lt g.size, h.ne⟩
theorem Ls.app {B b : Nat} {w0 w w2 : World} {a0 a1 a2 a3 a4 v v2 : Value} {Y Z : List Int} (h : Ls B b w0 a0 a1 a2 a3 a4 v Y w) (hg : w.grownBy w2 v.ownBlock) (ho : Ob B v2 Z w2) (hat : ∀ g, v2.ownBlock = some g → v.ownBlock = some g ∨ w.heap.size ≤ g) : Ls B b w0 a0 a1 a2 a3 a4 v2 Z w2 := by
  have c : ∀ {o : Nat} {u : Value}, w.cell? ⟨b, o, none⟩ = some u → w2.cell? ⟨b, o, none⟩ = some u := fun hc => (hg.cell_far _ h.lt (fun e => h.ne e.symm)).trans hc
  have f : ∀ {o : Nat}, w.frozen? ⟨b, o, none⟩ = false → w2.frozen? ⟨b, o, none⟩ = false := fun hc => (hg.frozen_far _ h.lt (fun e => h.ne e.symm)).trans hc
  refine ⟨ho, h.bel.trans (below_own hg h.big (own_block h.own)), ⟨c h.box.c0, c h.box.c1, c h.box.c2, c h.box.c3, c h.box.c4, f h.box.f0, f h.box.f1, f h.box.f2, f h.box.f3, f h.box.f4⟩, Nat.le_trans h.big hg.size, Nat.lt_of_lt_of_le h.lt hg.size, fun e => ?_⟩
  rcases hat b e with h1 | h1
  · exact h.ne h1
  · have := h.lt; omega
theorem Ls.far {B b : Nat} {w0 w w2 : World} {a0 a1 a2 a3 a4 v : Value} {Y : List Int} (h : Ls B b w0 a0 a1 a2 a3 a4 v Y w) (hg : w.grownBy w2 v.ownBlock) : Bx b a0 a1 a2 a3 a4 w2 ∧ Below B w0 w2 := by
  have c : ∀ {o : Nat} {u : Value}, w.cell? ⟨b, o, none⟩ = some u → w2.cell? ⟨b, o, none⟩ = some u := fun hc => (hg.cell_far _ h.lt (fun e => h.ne e.symm)).trans hc
  have f : ∀ {o : Nat}, w.frozen? ⟨b, o, none⟩ = false → w2.frozen? ⟨b, o, none⟩ = false := fun hc => (hg.frozen_far _ h.lt (fun e => h.ne e.symm)).trans hc
  exact ⟨⟨c h.box.c0, c h.box.c1, c h.box.c2, c h.box.c3, c h.box.c4, f h.box.f0, f h.box.f1, f h.box.f2, f h.box.f3, f h.box.f4⟩, h.bel.trans (below_own hg h.big (own_block h.own))⟩
theorem at_of {v : Value} {W : World} {g9 H n c : Nat} (hH : W.heap.size ≤ H) (hat : v.ownBlock = some g9 ∨ g9 = H) : ∀ g, (Value.slice (some ⟨g9, 0, none⟩) n c).ownBlock = some g → v.ownBlock = some g ∨ W.heap.size ≤ g := fun g e => by
  have e2 : g9 = g := Option.some.inj e
  subst e2
  rcases hat with h | h
  · exact .inl h
  · exact .inr (by omega)
theorem at_of2 {v : Value} {W : World} {g9 n c : Nat} (hat : v.ownBlock = some g9 ∨ W.heap.size ≤ g9) : ∀ g, (Value.slice (some ⟨g9, 0, none⟩) n c).ownBlock = some g → v.ownBlock = some g ∨ W.heap.size ≤ g := fun g e => by
  have e2 : g9 = g := Option.some.inj e
  subst e2
  exact hat
theorem Ob.push_str {w : World} {B N : Nat} {v : Value} {X : List Int} {s : ByteArray} (hN : N = X.length) (h : w.ownsRow B 5 1 v (N + s.size) (X.map (Value.int .u8) ++ Lib.strCells s)) : Ob B v (X ++ nums s) w := by
  rw [strCells_nums] at h
  exact Ob.push hN (nums_length s).symm h
theorem or32 : ∀ c n : Nat, c < 4 → n < 32 → (64 * c + n) ||| 32 = 64 * c + n + 32 := by
  have h : ∀ c : Fin 4, ∀ n : Fin 32, (64 * c.val + n.val) ||| 32 = 64 * c.val + n.val + 32 := by decide +kernel
  intro c n hc hn
  exact h ⟨c, hc⟩ ⟨n, hn⟩
theorem u8_or32 (c n : Int) (c0 : 0 ≤ c) (c1 : c < 4) (n0 : 0 ≤ n) (n1 : n < 31) : bits .or .u8 (64 * c + n) 32 = 64 * c + n + 32 := by
  obtain ⟨a, rfl⟩ := Int.eq_ofNat_of_zero_le c0
  obtain ⟨b, rfl⟩ := Int.eq_ofNat_of_zero_le n0
  have := u8_or_nat (64 * a + b) 32 (by omega) (by omega)
  rw [or32 a b (by omega) (by omega)] at this
  rw [show (64 * (a : Int) + (b : Int)) = ((64 * a + b : Nat) : Int) by omega, show (32 : Int) = ((32 : Nat) : Int) from rfl, this]
  omega
theorem i64_or64 (x y : Int) (h0 : 0 ≤ x) (h1 : x < 16777216) (h2 : 0 ≤ y) (h3 : y < 64) : bits .or .i64 (x * 64) y = 64 * x + y := by
  obtain ⟨a, rfl⟩ := Int.eq_ofNat_of_zero_le h0
  obtain ⟨b, rfl⟩ := Int.eq_ofNat_of_zero_le h2
  have e : (a : Int) * 64 = ((64 * a : Nat) : Int) := by omega
  rw [e]
  show IntKind.i64.wrap ((BitVec.ofInt 64 ((64 * a : Nat) : Int) ||| BitVec.ofInt 64 (b : Int)).toNat : Int) = _
  rw [BitVec.toNat_or, ofInt_i64 _ (by omega), ofInt_i64 b (by omega), nat_join 6 (64 * a) b (by omega) (by omega), wrap_in (by omega) (by omega)]
  omega
/-- lay answers as it should. -/
def LayOk (l : List El) : Prop := ∀ (w0 : World) (lv v : Value) (Y : List Int) (w : World), ElsV w0 lv l → (∀ e, e ∈ l → fineE e = true ∧ sizeE e ≤ 4000) → Ob w0.heap.size v Y w → Below w0.heap.size w0 w → Y.length + (layE.L l).length ≤ 10000 → Calls Try.prog 37 #[v, lv] w fun r w' => ∃ v2, r = .returned v2 ∧ Ob w0.heap.size v2 (Y ++ layE.L l) w' ∧ Below w0.heap.size w0 w'
set_option maxHeartbeats 6400000 in
theorem lay_of (l : List El) (ih : ∀ e, e ∈ l → LayOk e.els) : LayOk l := by
  intro w0 lv v Y w hV hF hO hb hlen
  obtain ⟨i0, hi, hz0, hz1, hz2⟩ := info_parts u8_info
  obtain ⟨ad, cap, rfl, hn, hc⟩ := hV
  have HIH := hide ih
  have HL := hide hc
  have HF := hide hF
  clear ih hc hF
  go_enter Try.func37, Try.ntmps37
  go_wp2
  go_loopw [0, 10] (fun vo vi wr => ∃ i : Nat, i ≤ l.length ∧ vi = .int .i64 (i : Int) ∧ Ob w0.heap.size vo (Y ++ layE.L (l.take i)) wr ∧ Below w0.heap.size w0 wr) (fun _ i _ => l.length - (intOf i).toNat)
  case atStart => exact ⟨0, Nat.zero_le _, rfl, (by simpa [layE.L] using hO), hb⟩
  case round =>
    obtain ⟨i, hile, rfl, hE, hbr⟩ := hrel
    clear hO hb
    have hB : w0.heap.size ≤ wr.heap.size := hbr.size
    by_cases hlt : i < l.length
    · have hzl : (i : Int) < (l.length : Int) := by omega
      have hz0' : (0 : Int) ≤ (i : Int) := by omega
      obtain ⟨g, off, rfl, hl⟩ := (unhide HL).resolve_left (by omega)
      obtain ⟨ad', cap', q0, q1, q2, q3, q4, hv⟩ := hl.at i hlt
      obtain ⟨f1, f2⟩ := unhide HF _ (getD_mem l i hlt)
      obtain ⟨hsp, hin⟩ := lay_split _ f1 f2
      have hYL := layL_take l i hlt
      have hYY : (Y ++ layE.L (l.take i)).length + (layE (l.getD i el0)).length ≤ 10000 := by
        have e1 : layE.L l = layE.L (l.take (i + 1)) ++ layE.L (l.drop (i + 1)) := by rw [← layL_app, List.take_append_drop]
        have e2 := congrArg List.length e1
        rw [List.length_append, hYL, List.length_append] at e2
        rw [List.length_append]
        omega
      have CL := unhide HIH _ (getD_mem l i hlt)
      have k0 := (hbr.cell (cell_lt q0)).trans q0
      have k1 := (hbr.cell (cell_lt q1)).trans q1
      have k2 := (hbr.cell (cell_lt q2)).trans q2
      have k3 := (hbr.cell (cell_lt q3)).trans q3
      have k4 := (hbr.cell (cell_lt q4)).trans q4
      clear q0 q1 q2 q3 q4 hl HIH HL HF
      generalize l.getD i el0 = e at *
      obtain ⟨c, m, n, s, els⟩ := e
      simp only at k0 k1 k2 k3 k4 hv CL hsp
      obtain ⟨f0, c0, c1, n0, n1, fm, fn⟩ := fine_parts f1
      have CS := hide (fun W (h : Below w0.heap.size w0 W) => cs_any _ f1 _ W (hv.grow h))
      have helF : ∀ e, e ∈ els → fineE e = true ∧ sizeE e ≤ 4000 := fun e he => ⟨fineL_mem els f0 e he, by
        have h9 := hdr_le (n := sizeE.L els s.size) (by simpa only [sizeE] using f2)
        have := sizeL_sum els s.size h9.1
        have := sumS_mem els e he
        omega⟩
      have CLY := hide (fun v Y w (hO : Ob w0.heap.size v Y w) (hb : Below w0.heap.size w0 w) (h : Y.length + (layE.L els).length ≤ 10000) => CL w0 _ v Y w hv.els helF hO hb h)
      clear CL hv helF f0 fm fn f1 f2
      have HSP := hide hsp
      have HYL := hide hYL
      have HYY := hide hYY
      clear hsp hYL hYY
      generalize inE (.mk c m n s els) = ln at *
      generalize layE (.mk c m n s els) = bytes at *
      obtain ⟨X, hX⟩ : ∃ X, Y ++ layE.L (l.take i) = X := ⟨_, rfl⟩
      rw [hX] at hE HYY
      have HX := hide hX
      clear hX
      obtain ⟨N, hN⟩ : ∃ N, N = X.length := ⟨_, rfl⟩
      have hbl : bytes.length = 1 + (lenL ln).length + s.size + (layE.L els).length := by
        rw [unhide HSP]
        simp only [List.length_append, List.length_cons, List.length_nil, nums_length]
      have hyy := unhide HYY
      have hN2 : N ≤ 10000 := by omega
      have hss : s.size ≤ 10000 := by omega
      have hm1 : N + 1 ≤ maxLen := by unfold maxLen; omega
      have hm2 : (N + 1) * 1 ≤ 140737488355328 := by omega
      have HLN : Hid (∀ tg : Int, (X ++ [tg] ++ lenL ln ++ nums s).length + (layE.L els).length ≤ 10000) := fun tg => by
        simp only [List.length_append, List.length_cons, List.length_nil, nums_length]
        omega
      have HN := hide hN
      clear hN hbl hyy
      have o1 : wrap64 (c * 64) = c * 64 := by unfold wrap64; omega
      have o2 := i64_or64 c n c0 (by omega) n0 (by omega)
      have o3 : IntKind.u8.wrap (64 * c + n) = 64 * c + n := by simp [IntKind.wrap, IntKind.bits, IntKind.signed] <;> omega
      have o4 := u8_or32 c n c0 c1 n0 n1
      have hls : Ls w0.heap.size wr.heap.size w0 (.int .i64 c) (.bool m) (.int .i64 n) (.string s) (.slice ad' els.length cap') u0 X (wr.alloc (.cells #[.int .i64 c, .bool m, .int .i64 n, .string s, .slice ad' els.length cap'] 26)) :=
        ⟨hE.below (Gr.one wr _).below, hbr.trans ((Gr.one wr _).below.mono hB), Bx.new wr _ _ _ _ _ _, by simp; omega, by simp, fun e => by have := (World.ownsRow.lt hE _ e).2; omega⟩
      have HLS := hide hls
      clear hls hE
      cases m
      · have tg0 : tagE c false n = 64 * c + n := by simp [tagE]
        rw [tg0] at HSP
        clear tg0
        generalize 64 * c + n = tg at *
        go_upto_region 7 with fail
        generalize hwb : wr.alloc (.cells #[.int .i64 c, .bool false, .int .i64 n, .string s, .slice ad' els.length cap'] 26) = wb at *
        clear hwb
        generalize wr.heap.size = b at *
        have b0 := (unhide HLS).box.c0
        have b1 := (unhide HLS).box.c1
        have b2 := (unhide HLS).box.c2
        have b3 := (unhide HLS).box.c3
        have b4 := (unhide HLS).box.c4
        clear k0 k1 k2 k3 k4 o1 o2 o3 o4
        have LW := hide ((unhide HLS).gr (((Gr.refl wb).alloc (.cells #[.int .u8 tg] 5)).drew))
        have HBW := hide (unhide LW).big
        have HOW := hide ((unhide LW).own.own (unhide HN))
        have hzw : (wb.alloc (.cells #[.int .u8 tg] 5)).drew.heap.size = wb.heap.size + 1 := by simp
        have HZW := hide hzw
        clear hzw
        have HNW : Hid ((wb.alloc (.cells #[.int .u8 tg] 5)).drew.heap[wb.heap.size]? = some (.cells #[.int .u8 tg] 5 (0, 0))) := heap_new wb _
        go_region_held3 (fun W => W.cell? ⟨b, 0, none⟩ = some (.int .i64 c) ∧ W.cell? ⟨b, 1, none⟩ = some (.bool false) ∧ W.cell? ⟨b, 2, none⟩ = some (.int .i64 n) ∧ W.cell? ⟨b, 3, none⟩ = some (.string s) ∧ W.cell? ⟨b, 4, none⟩ = some (.slice ad' els.length cap')) (first | exact ⟨b0, b1, b2, b3, b4⟩ | exact ⟨k90, k91, k92, k93, k94⟩ | exact ⟨k20, k21, k22, k23, k24⟩ | exact ⟨k30, k31, k32, k33, k34⟩ | assumption | go_keep)
          (first
            | (refine step_append_lies _ (by rfl) _ _ 71 (by rfl) w0.heap.size 5 i0 _ 1 1 Try.underlying71 hi hz0 hz1 hz2 rfl (by omega) _ N _ (by rfl) (unhide HOW) ⟨wb.heap.size, 0, none⟩ 1 1 [.int .u8 tg] (by rfl) rfl (World.news_of_block (unhide HNW)) (by simp [Value.oneCell']) (by omega) hm1 hm2 (unhide HBW) (wb.heap.size + 1) (unhide HZW) ?_; intro g9 cap9 w9 hown9 hgrow9 hat9 hlt9; have L9 := hide (Ls.app (unhide LW) hgrow9 (Ob.push (unhide HN) (Z := [tg]) rfl hown9) (at_of (by rw [unhide HZW]; omega) hat9)); clear hown9 hgrow9 hat9 hlt9; have k90 := (unhide L9).box.c0; have k91 := (unhide L9).box.c1; have k92 := (unhide L9).box.c2; have k93 := (unhide L9).box.c3; have k94 := (unhide L9).box.c4)
            | (go_at_call 46; refine (layLength_any w0.heap.size (X ++ [tg]) (N + 1) (by rw [List.length_append, ← unhide HN]; rfl) _ ln _ (unhide L2).own (unhide L2).big (by omega) hin).mono ?_; rintro r w3 ⟨g3, cap3, m3, rfl, hm3, ow3, gr3, at3⟩; have L3 := hide (Ls.app (unhide L2) gr3 ow3 (at_of2 at3)); have HM3 := hide hm3; clear ow3 gr3 at3 hm3; have k30 := (unhide L3).box.c0; have k31 := (unhide L3).box.c1; have k32 := (unhide L3).box.c2; have k33 := (unhide L3).box.c3; have k34 := (unhide L3).box.c4)
            | (go_at_call 44; refine (unhide CS _ (unhide L9).bel).mono ?_; rintro r w2 ⟨rfl, g2⟩; have L2 := hide ((unhide L9).gr g2); clear g2; have k20 := (unhide L2).box.c0; have k21 := (unhide L2).box.c1; have k22 := (unhide L2).box.c2; have k23 := (unhide L2).box.c3; have k24 := (unhide L2).box.c4))
        have hN3 : N + 1 + m3 = (X ++ [tg] ++ lenL ln).length := by rw [unhide HM3, List.length_append, List.length_append, ← unhide HN]; rfl
        have O3 := hide ((unhide L3).own.own hN3)
        have HB3 := hide (unhide L3).big
        have hl3 := lenL_len ln
        rw [← unhide HM3] at hl3
        have HN3 := hide hN3
        clear hN3
        have hml1 : N + 1 + m3 + s.size ≤ maxLen := by unfold maxLen; omega
        have hml2 : N + 1 + m3 + s.size ≤ 140737488355328 := by omega
        go_wp2_with (first
          | (go_at_call 37; refine (unhide CLY _ _ _ (unhide O4) (unhide BL4) (unhide HLN _)).mono ?_; rintro r w5 ⟨v5, rfl, ow5, b5⟩)
          | (at_builtin; refine Lib.wpList_append_own_string _ rfl _ _ 71 9 rfl w0.heap.size 5 i0 Try.underlying71 Try.underlying9 hi hz0 hz1 hz2 _ (N + 1 + m3) _ rfl (unhide O3) s rfl hml1 hml2 (unhide HB3) ?_; intro v4 w4 hown4 hgrow4 hnil4; clear hnil4; have O4 := hide (Ob.push_str (unhide HN3) hown4); obtain ⟨bx4, bl4⟩ := (unhide L3).far hgrow4; have BL4 := hide bl4; have k44 := bx4.c4; clear bx4 bl4 hown4 hgrow4))
        go_roundw
        case rel =>
          refine ⟨i + 1, by omega, by go_num, ?_, b5⟩
          have e9 : Y ++ layE.L (l.take (i + 1)) = X ++ [tg] ++ lenL ln ++ nums s ++ layE.L els := by rw [unhide HYL, ← List.append_assoc, unhide HX, unhide HSP]; simp
          rw [e9]
          exact ow5
        case measure => simp [intOf]; omega
      · have tg0 : tagE c true n = 64 * c + n + 32 := by simp [tagE]
        rw [tg0] at HSP
        clear tg0
        generalize 64 * c + n + 32 = tg at *
        go_upto_region 7 with fail
        generalize hwb : wr.alloc (.cells #[.int .i64 c, .bool true, .int .i64 n, .string s, .slice ad' els.length cap'] 26) = wb at *
        clear hwb
        generalize wr.heap.size = b at *
        have b0 := (unhide HLS).box.c0
        have b1 := (unhide HLS).box.c1
        have b2 := (unhide HLS).box.c2
        have b3 := (unhide HLS).box.c3
        have b4 := (unhide HLS).box.c4
        clear k0 k1 k2 k3 k4 o1 o2 o3 o4
        have LW := hide ((unhide HLS).gr (((Gr.refl wb).alloc (.cells #[.int .u8 tg] 5)).drew))
        have HBW := hide (unhide LW).big
        have HOW := hide ((unhide LW).own.own (unhide HN))
        have hzw : (wb.alloc (.cells #[.int .u8 tg] 5)).drew.heap.size = wb.heap.size + 1 := by simp
        have HZW := hide hzw
        clear hzw
        have HNW : Hid ((wb.alloc (.cells #[.int .u8 tg] 5)).drew.heap[wb.heap.size]? = some (.cells #[.int .u8 tg] 5 (0, 0))) := heap_new wb _
        go_region_held3 (fun W => W.cell? ⟨b, 0, none⟩ = some (.int .i64 c) ∧ W.cell? ⟨b, 1, none⟩ = some (.bool true) ∧ W.cell? ⟨b, 2, none⟩ = some (.int .i64 n) ∧ W.cell? ⟨b, 3, none⟩ = some (.string s) ∧ W.cell? ⟨b, 4, none⟩ = some (.slice ad' els.length cap')) (first | exact ⟨b0, b1, b2, b3, b4⟩ | exact ⟨k90, k91, k92, k93, k94⟩ | exact ⟨k20, k21, k22, k23, k24⟩ | exact ⟨k30, k31, k32, k33, k34⟩ | assumption | go_keep)
          (first
            | (refine step_append_lies _ (by rfl) _ _ 71 (by rfl) w0.heap.size 5 i0 _ 1 1 Try.underlying71 hi hz0 hz1 hz2 rfl (by omega) _ N _ (by rfl) (unhide HOW) ⟨wb.heap.size, 0, none⟩ 1 1 [.int .u8 tg] (by rfl) rfl (World.news_of_block (unhide HNW)) (by simp [Value.oneCell']) (by omega) hm1 hm2 (unhide HBW) (wb.heap.size + 1) (unhide HZW) ?_; intro g9 cap9 w9 hown9 hgrow9 hat9 hlt9; have L9 := hide (Ls.app (unhide LW) hgrow9 (Ob.push (unhide HN) (Z := [tg]) rfl hown9) (at_of (by rw [unhide HZW]; omega) hat9)); clear hown9 hgrow9 hat9 hlt9; have k90 := (unhide L9).box.c0; have k91 := (unhide L9).box.c1; have k92 := (unhide L9).box.c2; have k93 := (unhide L9).box.c3; have k94 := (unhide L9).box.c4)
            | (go_at_call 46; refine (layLength_any w0.heap.size (X ++ [tg]) (N + 1) (by rw [List.length_append, ← unhide HN]; rfl) _ ln _ (unhide L2).own (unhide L2).big (by omega) hin).mono ?_; rintro r w3 ⟨g3, cap3, m3, rfl, hm3, ow3, gr3, at3⟩; have L3 := hide (Ls.app (unhide L2) gr3 ow3 (at_of2 at3)); have HM3 := hide hm3; clear ow3 gr3 at3 hm3; have k30 := (unhide L3).box.c0; have k31 := (unhide L3).box.c1; have k32 := (unhide L3).box.c2; have k33 := (unhide L3).box.c3; have k34 := (unhide L3).box.c4)
            | (go_at_call 44; refine (unhide CS _ (unhide L9).bel).mono ?_; rintro r w2 ⟨rfl, g2⟩; have L2 := hide ((unhide L9).gr g2); clear g2; have k20 := (unhide L2).box.c0; have k21 := (unhide L2).box.c1; have k22 := (unhide L2).box.c2; have k23 := (unhide L2).box.c3; have k24 := (unhide L2).box.c4))
        have hN3 : N + 1 + m3 = (X ++ [tg] ++ lenL ln).length := by rw [unhide HM3, List.length_append, List.length_append, ← unhide HN]; rfl
        have O3 := hide ((unhide L3).own.own hN3)
        have HB3 := hide (unhide L3).big
        have hl3 := lenL_len ln
        rw [← unhide HM3] at hl3
        have HN3 := hide hN3
        clear hN3
        have hml1 : N + 1 + m3 + s.size ≤ maxLen := by unfold maxLen; omega
        have hml2 : N + 1 + m3 + s.size ≤ 140737488355328 := by omega
        go_wp2_with (first
          | (go_at_call 37; refine (unhide CLY _ _ _ (unhide O4) (unhide BL4) (unhide HLN _)).mono ?_; rintro r w5 ⟨v5, rfl, ow5, b5⟩)
          | (at_builtin; refine Lib.wpList_append_own_string _ rfl _ _ 71 9 rfl w0.heap.size 5 i0 Try.underlying71 Try.underlying9 hi hz0 hz1 hz2 _ (N + 1 + m3) _ rfl (unhide O3) s rfl hml1 hml2 (unhide HB3) ?_; intro v4 w4 hown4 hgrow4 hnil4; clear hnil4; have O4 := hide (Ob.push_str (unhide HN3) hown4); obtain ⟨bx4, bl4⟩ := (unhide L3).far hgrow4; have BL4 := hide bl4; have k44 := bx4.c4; clear bx4 bl4 hown4 hgrow4))
        go_roundw
        case rel =>
          refine ⟨i + 1, by omega, by go_num, ?_, b5⟩
          have e9 : Y ++ layE.L (l.take (i + 1)) = X ++ [tg] ++ lenL ln ++ nums s ++ layE.L els := by rw [unhide HYL, ← List.append_assoc, unhide HX, unhide HSP]; simp
          rw [e9]
          exact ow5
        case measure => simp [intOf]; omega
    · have hzl : ¬ (i : Int) < (l.length : Int) := by omega
      rw [List.take_of_length_le (by omega)] at hE
      have OE := hide hE
      clear HIH HL HF hE
      go_wp2
      go_ret
      exact ⟨_, rfl, unhide OE, hbr⟩
theorem lay_els : ∀ e : El, LayOk e.els := fun e => by
  induction e using El.ind with
  | h c m n s els ih => exact lay_of els ih
theorem lay_any (l : List El) : LayOk l := lay_of l fun e _ => lay_els e
end Go.Proofs.Ytcboggoindhmkaa
