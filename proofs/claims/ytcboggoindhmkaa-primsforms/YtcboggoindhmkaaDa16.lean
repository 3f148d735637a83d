/- The program's whole of layer 16: a whole number's bytes (made by gen_whole.py). -/
import Derived.Test.YtcboggoindhmkaaOb16
import Derived.Test.YtcboggoindhmkaaMath16
namespace Go.Proofs.Ytcboggoindhmkaa
open Go.RowKit

set_option maxHeartbeats 3200000 in
theorem whole_1p (n : Int) (h0 : -128 ≤ n) (h1 : n < 128) (hs : 0 ≤ n) (w : World) : Calls Try.prog 30 #[.int .i64 n] w fun r w' => r = .returned (.string (strOfNums (dg 1 n))) ∧ Below w.heap.size w w' := by
  obtain ⟨i0, hi, hz0, hz1, hz2⟩ := info_parts u8_info
  rw [dg1]
  have e0 : (n / 128 != 0) = false := by simp; omega
  have c0 : IntKind.u8.wrap (n) = n % 256 := by simp [IntKind.wrap, IntKind.bits, IntKind.signed] <;> omega
  generalize n % 256 = z0 at *
  have O0 : Ob w.heap.size (.slice none 0 0) [] w := ⟨rfl, .inl ⟨rfl, rfl⟩⟩
  have b0 := Below.refl w.heap.size w
  clear h0 h1 hs
  go_enter Try.func30, Try.ntmps30
  go_wp2
  refine wp_loop_rounds 1 ?_
  rw [rounds_succ]
  go_wp2
  refine wp_loop_rounds 2 ?_
  rw [rounds_succ]
  go_wp2_with (at_builtin; refine wpList_append_lies _ rfl _ _ 71 rfl w.heap.size 5 i0 _ 1 1 Try.underlying71 hi hz0 hz1 hz2 rfl (by omega) _ 0 _ rfl (World.ownsRow.alloc O0 _) ⟨w.heap.size, 0, none⟩ 1 1 [.int .u8 z0] rfl rfl (World.news_of_block (cs := #[.int .u8 z0]) (t := 5) (fr := (0, 0)) (heap_new w _)) (by simp [Value.oneCell']) (by omega) (by unfold maxLen; omega) (by omega) (by have := b0.size; first | (simp; done) | (simp; omega)) (w.heap.size + 1) (by simp) ?_; intro g1 p1 w1 hown hgrow hat hlt; have O1 : Ob w.heap.size (.slice (some ⟨g1, 0, none⟩) 1 p1) ([] ++ [z0]) w1 := Ob.push (X := []) (Z := [z0]) rfl rfl hown; have b1 := b0.trans (below_own (grown_new hgrow) b0.size (own_block O0)); clear hown hgrow hat hlt; have cv := O1.conv)
  rw [rounds_succ]
  go_wp2
  go_ret
  exact ⟨rfl, b1⟩
set_option maxHeartbeats 3200000 in
theorem whole_1n (n : Int) (h0 : -128 ≤ n) (h1 : n < 128) (hs : n < 0) (w : World) : Calls Try.prog 30 #[.int .i64 n] w fun r w' => r = .returned (.string (strOfNums (dg 1 n))) ∧ Below w.heap.size w w' := by
  obtain ⟨i0, hi, hz0, hz1, hz2⟩ := info_parts u8_info
  rw [dg1]
  have e0 : (n / 128 != 0) = true := by simp; omega
  have f0 : (n / 128 != -1) = false := by simp; omega
  have c0 : IntKind.u8.wrap (n) = n % 256 := by simp [IntKind.wrap, IntKind.bits, IntKind.signed] <;> omega
  generalize n % 256 = z0 at *
  have O0 : Ob w.heap.size (.slice none 0 0) [] w := ⟨rfl, .inl ⟨rfl, rfl⟩⟩
  have b0 := Below.refl w.heap.size w
  clear h0 h1 hs
  go_enter Try.func30, Try.ntmps30
  go_wp2
  refine wp_loop_rounds 1 ?_
  rw [rounds_succ]
  go_wp2
  refine wp_loop_rounds 2 ?_
  rw [rounds_succ]
  go_wp2_with (at_builtin; refine wpList_append_lies _ rfl _ _ 71 rfl w.heap.size 5 i0 _ 1 1 Try.underlying71 hi hz0 hz1 hz2 rfl (by omega) _ 0 _ rfl (World.ownsRow.alloc O0 _) ⟨w.heap.size, 0, none⟩ 1 1 [.int .u8 z0] rfl rfl (World.news_of_block (cs := #[.int .u8 z0]) (t := 5) (fr := (0, 0)) (heap_new w _)) (by simp [Value.oneCell']) (by omega) (by unfold maxLen; omega) (by omega) (by have := b0.size; first | (simp; done) | (simp; omega)) (w.heap.size + 1) (by simp) ?_; intro g1 p1 w1 hown hgrow hat hlt; have O1 : Ob w.heap.size (.slice (some ⟨g1, 0, none⟩) 1 p1) ([] ++ [z0]) w1 := Ob.push (X := []) (Z := [z0]) rfl rfl hown; have b1 := b0.trans (below_own (grown_new hgrow) b0.size (own_block O0)); clear hown hgrow hat hlt; have cv := O1.conv)
  rw [rounds_succ]
  go_wp2
  go_ret
  exact ⟨rfl, b1⟩
theorem whole_1 (n : Int) (h0 : -128 ≤ n) (h1 : n < 128) (w : World) : Calls Try.prog 30 #[.int .i64 n] w fun r w' => r = .returned (.string (strOfNums (dg 1 n))) ∧ Below w.heap.size w w' := by
  by_cases hs : n < 0
  · exact whole_1n n h0 h1 hs w
  · exact whole_1p n h0 h1 (by omega) w
set_option maxHeartbeats 3200000 in
theorem whole_2p (n : Int) (h0 : -32768 ≤ n) (h1 : n < 32768) (h2 : ¬ (-128 ≤ n ∧ n < 128)) (hs : 0 ≤ n) (w : World) : Calls Try.prog 30 #[.int .i64 n] w fun r w' => r = .returned (.string (strOfNums (dg 2 n))) ∧ Below w.heap.size w w' := by
  obtain ⟨i0, hi, hz0, hz1, hz2⟩ := info_parts u8_info
  rw [dg2]
  have e0 : (n / 128 != 0) = true := by simp; omega
  have f0 : (n / 128 != -1) = true := by simp; omega
  have e1 : (n / 32768 != 0) = false := by simp; omega
  have c0 : IntKind.u8.wrap (n / 256) = n / 256 % 256 := by simp [IntKind.wrap, IntKind.bits, IntKind.signed] <;> omega
  have c1 : IntKind.u8.wrap (n) = n % 256 := by simp [IntKind.wrap, IntKind.bits, IntKind.signed] <;> omega
  generalize n / 256 % 256 = z0 at *
  generalize n % 256 = z1 at *
  have O0 : Ob w.heap.size (.slice none 0 0) [] w := ⟨rfl, .inl ⟨rfl, rfl⟩⟩
  have b0 := Below.refl w.heap.size w
  clear h0 h1 hs h2
  go_enter Try.func30, Try.ntmps30
  go_wp2
  refine wp_loop_rounds 2 ?_
  rw [rounds_succ]
  go_wp2
  rw [rounds_succ]
  go_wp2
  refine wp_loop_rounds 3 ?_
  rw [rounds_succ]
  go_wp2_with (at_builtin; refine wpList_append_lies _ rfl _ _ 71 rfl w.heap.size 5 i0 _ 1 1 Try.underlying71 hi hz0 hz1 hz2 rfl (by omega) _ 0 _ rfl (World.ownsRow.alloc O0 _) ⟨w.heap.size, 0, none⟩ 1 1 [.int .u8 z0] rfl rfl (World.news_of_block (cs := #[.int .u8 z0]) (t := 5) (fr := (0, 0)) (heap_new w _)) (by simp [Value.oneCell']) (by omega) (by unfold maxLen; omega) (by omega) (by have := b0.size; first | (simp; done) | (simp; omega)) (w.heap.size + 1) (by simp) ?_; intro g1 p1 w1 hown hgrow hat hlt; have O1 : Ob w.heap.size (.slice (some ⟨g1, 0, none⟩) 1 p1) ([] ++ [z0]) w1 := Ob.push (X := []) (Z := [z0]) rfl rfl hown; have b1 := b0.trans (below_own (grown_new hgrow) b0.size (own_block O0)); clear hown hgrow hat hlt)
  rw [rounds_succ]
  go_wp2_with (at_builtin; refine wpList_append_lies _ rfl _ _ 71 rfl w.heap.size 5 i0 _ 1 1 Try.underlying71 hi hz0 hz1 hz2 rfl (by omega) _ 1 _ rfl (World.ownsRow.alloc O1 _) ⟨w1.heap.size, 0, none⟩ 1 1 [.int .u8 z1] rfl rfl (World.news_of_block (cs := #[.int .u8 z1]) (t := 5) (fr := (0, 0)) (heap_new w1 _)) (by simp [Value.oneCell']) (by omega) (by unfold maxLen; omega) (by omega) (by have := b1.size; first | (simp; done) | (simp; omega)) (w1.heap.size + 1) (by simp) ?_; intro g2 p2 w2 hown hgrow hat hlt; have O2 : Ob w.heap.size (.slice (some ⟨g2, 0, none⟩) 2 p2) ([z0] ++ [z1]) w2 := Ob.push (X := [z0]) (Z := [z1]) rfl rfl hown; have b2 := b1.trans (below_own (grown_new hgrow) b1.size (own_block O1)); clear hown hgrow hat hlt; have cv := O2.conv)
  rw [rounds_succ]
  go_wp2
  go_ret
  exact ⟨rfl, b2⟩
set_option maxHeartbeats 3200000 in
theorem whole_2n (n : Int) (h0 : -32768 ≤ n) (h1 : n < 32768) (h2 : ¬ (-128 ≤ n ∧ n < 128)) (hs : n < 0) (w : World) : Calls Try.prog 30 #[.int .i64 n] w fun r w' => r = .returned (.string (strOfNums (dg 2 n))) ∧ Below w.heap.size w w' := by
  obtain ⟨i0, hi, hz0, hz1, hz2⟩ := info_parts u8_info
  rw [dg2]
  have e0 : (n / 128 != 0) = true := by simp; omega
  have f0 : (n / 128 != -1) = true := by simp; omega
  have e1 : (n / 32768 != 0) = true := by simp; omega
  have f1 : (n / 32768 != -1) = false := by simp; omega
  have c0 : IntKind.u8.wrap (n / 256) = n / 256 % 256 := by simp [IntKind.wrap, IntKind.bits, IntKind.signed] <;> omega
  have c1 : IntKind.u8.wrap (n) = n % 256 := by simp [IntKind.wrap, IntKind.bits, IntKind.signed] <;> omega
  generalize n / 256 % 256 = z0 at *
  generalize n % 256 = z1 at *
  have O0 : Ob w.heap.size (.slice none 0 0) [] w := ⟨rfl, .inl ⟨rfl, rfl⟩⟩
  have b0 := Below.refl w.heap.size w
  clear h0 h1 hs h2
  go_enter Try.func30, Try.ntmps30
  go_wp2
  refine wp_loop_rounds 2 ?_
  rw [rounds_succ]
  go_wp2
  rw [rounds_succ]
  go_wp2
  refine wp_loop_rounds 3 ?_
  rw [rounds_succ]
  go_wp2_with (at_builtin; refine wpList_append_lies _ rfl _ _ 71 rfl w.heap.size 5 i0 _ 1 1 Try.underlying71 hi hz0 hz1 hz2 rfl (by omega) _ 0 _ rfl (World.ownsRow.alloc O0 _) ⟨w.heap.size, 0, none⟩ 1 1 [.int .u8 z0] rfl rfl (World.news_of_block (cs := #[.int .u8 z0]) (t := 5) (fr := (0, 0)) (heap_new w _)) (by simp [Value.oneCell']) (by omega) (by unfold maxLen; omega) (by omega) (by have := b0.size; first | (simp; done) | (simp; omega)) (w.heap.size + 1) (by simp) ?_; intro g1 p1 w1 hown hgrow hat hlt; have O1 : Ob w.heap.size (.slice (some ⟨g1, 0, none⟩) 1 p1) ([] ++ [z0]) w1 := Ob.push (X := []) (Z := [z0]) rfl rfl hown; have b1 := b0.trans (below_own (grown_new hgrow) b0.size (own_block O0)); clear hown hgrow hat hlt)
  rw [rounds_succ]
  go_wp2_with (at_builtin; refine wpList_append_lies _ rfl _ _ 71 rfl w.heap.size 5 i0 _ 1 1 Try.underlying71 hi hz0 hz1 hz2 rfl (by omega) _ 1 _ rfl (World.ownsRow.alloc O1 _) ⟨w1.heap.size, 0, none⟩ 1 1 [.int .u8 z1] rfl rfl (World.news_of_block (cs := #[.int .u8 z1]) (t := 5) (fr := (0, 0)) (heap_new w1 _)) (by simp [Value.oneCell']) (by omega) (by unfold maxLen; omega) (by omega) (by have := b1.size; first | (simp; done) | (simp; omega)) (w1.heap.size + 1) (by simp) ?_; intro g2 p2 w2 hown hgrow hat hlt; have O2 : Ob w.heap.size (.slice (some ⟨g2, 0, none⟩) 2 p2) ([z0] ++ [z1]) w2 := Ob.push (X := [z0]) (Z := [z1]) rfl rfl hown; have b2 := b1.trans (below_own (grown_new hgrow) b1.size (own_block O1)); clear hown hgrow hat hlt; have cv := O2.conv)
  rw [rounds_succ]
  go_wp2
  go_ret
  exact ⟨rfl, b2⟩
theorem whole_2 (n : Int) (h0 : -32768 ≤ n) (h1 : n < 32768) (h2 : ¬ (-128 ≤ n ∧ n < 128)) (w : World) : Calls Try.prog 30 #[.int .i64 n] w fun r w' => r = .returned (.string (strOfNums (dg 2 n))) ∧ Below w.heap.size w w' := by
  by_cases hs : n < 0
  · exact whole_2n n h0 h1 h2 hs w
  · exact whole_2p n h0 h1 h2 (by omega) w
set_option maxHeartbeats 3200000 in
theorem whole_3p (n : Int) (h0 : -8388608 ≤ n) (h1 : n < 8388608) (h2 : ¬ (-32768 ≤ n ∧ n < 32768)) (hs : 0 ≤ n) (w : World) : Calls Try.prog 30 #[.int .i64 n] w fun r w' => r = .returned (.string (strOfNums (dg 3 n))) ∧ Below w.heap.size w w' := by
  obtain ⟨i0, hi, hz0, hz1, hz2⟩ := info_parts u8_info
  rw [dg3]
  have e0 : (n / 128 != 0) = true := by simp; omega
  have f0 : (n / 128 != -1) = true := by simp; omega
  have e1 : (n / 32768 != 0) = true := by simp; omega
  have f1 : (n / 32768 != -1) = true := by simp; omega
  have e2 : (n / 8388608 != 0) = false := by simp; omega
  have c0 : IntKind.u8.wrap (n / 65536) = n / 256 / 256 % 256 := by simp [IntKind.wrap, IntKind.bits, IntKind.signed] <;> omega
  have c1 : IntKind.u8.wrap (n / 256) = n / 256 % 256 := by simp [IntKind.wrap, IntKind.bits, IntKind.signed] <;> omega
  have c2 : IntKind.u8.wrap (n) = n % 256 := by simp [IntKind.wrap, IntKind.bits, IntKind.signed] <;> omega
  generalize n / 256 / 256 % 256 = z0 at *
  generalize n / 256 % 256 = z1 at *
  generalize n % 256 = z2 at *
  have O0 : Ob w.heap.size (.slice none 0 0) [] w := ⟨rfl, .inl ⟨rfl, rfl⟩⟩
  have b0 := Below.refl w.heap.size w
  clear h0 h1 hs h2
  go_enter Try.func30, Try.ntmps30
  go_wp2
  refine wp_loop_rounds 3 ?_
  rw [rounds_succ]
  go_wp2
  rw [rounds_succ]
  go_wp2
  rw [rounds_succ]
  go_wp2
  refine wp_loop_rounds 4 ?_
  rw [rounds_succ]
  go_wp2_with (at_builtin; refine wpList_append_lies _ rfl _ _ 71 rfl w.heap.size 5 i0 _ 1 1 Try.underlying71 hi hz0 hz1 hz2 rfl (by omega) _ 0 _ rfl (World.ownsRow.alloc O0 _) ⟨w.heap.size, 0, none⟩ 1 1 [.int .u8 z0] rfl rfl (World.news_of_block (cs := #[.int .u8 z0]) (t := 5) (fr := (0, 0)) (heap_new w _)) (by simp [Value.oneCell']) (by omega) (by unfold maxLen; omega) (by omega) (by have := b0.size; first | (simp; done) | (simp; omega)) (w.heap.size + 1) (by simp) ?_; intro g1 p1 w1 hown hgrow hat hlt; have O1 : Ob w.heap.size (.slice (some ⟨g1, 0, none⟩) 1 p1) ([] ++ [z0]) w1 := Ob.push (X := []) (Z := [z0]) rfl rfl hown; have b1 := b0.trans (below_own (grown_new hgrow) b0.size (own_block O0)); clear hown hgrow hat hlt)
  rw [rounds_succ]
  go_wp2_with (at_builtin; refine wpList_append_lies _ rfl _ _ 71 rfl w.heap.size 5 i0 _ 1 1 Try.underlying71 hi hz0 hz1 hz2 rfl (by omega) _ 1 _ rfl (World.ownsRow.alloc O1 _) ⟨w1.heap.size, 0, none⟩ 1 1 [.int .u8 z1] rfl rfl (World.news_of_block (cs := #[.int .u8 z1]) (t := 5) (fr := (0, 0)) (heap_new w1 _)) (by simp [Value.oneCell']) (by omega) (by unfold maxLen; omega) (by omega) (by have := b1.size; first | (simp; done) | (simp; omega)) (w1.heap.size + 1) (by simp) ?_; intro g2 p2 w2 hown hgrow hat hlt; have O2 : Ob w.heap.size (.slice (some ⟨g2, 0, none⟩) 2 p2) ([z0] ++ [z1]) w2 := Ob.push (X := [z0]) (Z := [z1]) rfl rfl hown; have b2 := b1.trans (below_own (grown_new hgrow) b1.size (own_block O1)); clear hown hgrow hat hlt)
  rw [rounds_succ]
  go_wp2_with (at_builtin; refine wpList_append_lies _ rfl _ _ 71 rfl w.heap.size 5 i0 _ 1 1 Try.underlying71 hi hz0 hz1 hz2 rfl (by omega) _ 2 _ rfl (World.ownsRow.alloc O2 _) ⟨w2.heap.size, 0, none⟩ 1 1 [.int .u8 z2] rfl rfl (World.news_of_block (cs := #[.int .u8 z2]) (t := 5) (fr := (0, 0)) (heap_new w2 _)) (by simp [Value.oneCell']) (by omega) (by unfold maxLen; omega) (by omega) (by have := b2.size; first | (simp; done) | (simp; omega)) (w2.heap.size + 1) (by simp) ?_; intro g3 p3 w3 hown hgrow hat hlt; have O3 : Ob w.heap.size (.slice (some ⟨g3, 0, none⟩) 3 p3) ([z0, z1] ++ [z2]) w3 := Ob.push (X := [z0, z1]) (Z := [z2]) rfl rfl hown; have b3 := b2.trans (below_own (grown_new hgrow) b2.size (own_block O2)); clear hown hgrow hat hlt; have cv := O3.conv)
  rw [rounds_succ]
  go_wp2
  go_ret
  exact ⟨rfl, b3⟩
set_option maxHeartbeats 3200000 in
theorem whole_3n (n : Int) (h0 : -8388608 ≤ n) (h1 : n < 8388608) (h2 : ¬ (-32768 ≤ n ∧ n < 32768)) (hs : n < 0) (w : World) : Calls Try.prog 30 #[.int .i64 n] w fun r w' => r = .returned (.string (strOfNums (dg 3 n))) ∧ Below w.heap.size w w' := by
  obtain ⟨i0, hi, hz0, hz1, hz2⟩ := info_parts u8_info
  rw [dg3]
  have e0 : (n / 128 != 0) = true := by simp; omega
  have f0 : (n / 128 != -1) = true := by simp; omega
  have e1 : (n / 32768 != 0) = true := by simp; omega
  have f1 : (n / 32768 != -1) = true := by simp; omega
  have e2 : (n / 8388608 != 0) = true := by simp; omega
  have f2 : (n / 8388608 != -1) = false := by simp; omega
  have c0 : IntKind.u8.wrap (n / 65536) = n / 256 / 256 % 256 := by simp [IntKind.wrap, IntKind.bits, IntKind.signed] <;> omega
  have c1 : IntKind.u8.wrap (n / 256) = n / 256 % 256 := by simp [IntKind.wrap, IntKind.bits, IntKind.signed] <;> omega
  have c2 : IntKind.u8.wrap (n) = n % 256 := by simp [IntKind.wrap, IntKind.bits, IntKind.signed] <;> omega
  generalize n / 256 / 256 % 256 = z0 at *
  generalize n / 256 % 256 = z1 at *
  generalize n % 256 = z2 at *
  have O0 : Ob w.heap.size (.slice none 0 0) [] w := ⟨rfl, .inl ⟨rfl, rfl⟩⟩
  have b0 := Below.refl w.heap.size w
  clear h0 h1 hs h2
  go_enter Try.func30, Try.ntmps30
  go_wp2
  refine wp_loop_rounds 3 ?_
  rw [rounds_succ]
  go_wp2
  rw [rounds_succ]
  go_wp2
  rw [rounds_succ]
  go_wp2
  refine wp_loop_rounds 4 ?_
  rw [rounds_succ]
  go_wp2_with (at_builtin; refine wpList_append_lies _ rfl _ _ 71 rfl w.heap.size 5 i0 _ 1 1 Try.underlying71 hi hz0 hz1 hz2 rfl (by omega) _ 0 _ rfl (World.ownsRow.alloc O0 _) ⟨w.heap.size, 0, none⟩ 1 1 [.int .u8 z0] rfl rfl (World.news_of_block (cs := #[.int .u8 z0]) (t := 5) (fr := (0, 0)) (heap_new w _)) (by simp [Value.oneCell']) (by omega) (by unfold maxLen; omega) (by omega) (by have := b0.size; first | (simp; done) | (simp; omega)) (w.heap.size + 1) (by simp) ?_; intro g1 p1 w1 hown hgrow hat hlt; have O1 : Ob w.heap.size (.slice (some ⟨g1, 0, none⟩) 1 p1) ([] ++ [z0]) w1 := Ob.push (X := []) (Z := [z0]) rfl rfl hown; have b1 := b0.trans (below_own (grown_new hgrow) b0.size (own_block O0)); clear hown hgrow hat hlt)
  rw [rounds_succ]
  go_wp2_with (at_builtin; refine wpList_append_lies _ rfl _ _ 71 rfl w.heap.size 5 i0 _ 1 1 Try.underlying71 hi hz0 hz1 hz2 rfl (by omega) _ 1 _ rfl (World.ownsRow.alloc O1 _) ⟨w1.heap.size, 0, none⟩ 1 1 [.int .u8 z1] rfl rfl (World.news_of_block (cs := #[.int .u8 z1]) (t := 5) (fr := (0, 0)) (heap_new w1 _)) (by simp [Value.oneCell']) (by omega) (by unfold maxLen; omega) (by omega) (by have := b1.size; first | (simp; done) | (simp; omega)) (w1.heap.size + 1) (by simp) ?_; intro g2 p2 w2 hown hgrow hat hlt; have O2 : Ob w.heap.size (.slice (some ⟨g2, 0, none⟩) 2 p2) ([z0] ++ [z1]) w2 := Ob.push (X := [z0]) (Z := [z1]) rfl rfl hown; have b2 := b1.trans (below_own (grown_new hgrow) b1.size (own_block O1)); clear hown hgrow hat hlt)
  rw [rounds_succ]
  go_wp2_with (at_builtin; refine wpList_append_lies _ rfl _ _ 71 rfl w.heap.size 5 i0 _ 1 1 Try.underlying71 hi hz0 hz1 hz2 rfl (by omega) _ 2 _ rfl (World.ownsRow.alloc O2 _) ⟨w2.heap.size, 0, none⟩ 1 1 [.int .u8 z2] rfl rfl (World.news_of_block (cs := #[.int .u8 z2]) (t := 5) (fr := (0, 0)) (heap_new w2 _)) (by simp [Value.oneCell']) (by omega) (by unfold maxLen; omega) (by omega) (by have := b2.size; first | (simp; done) | (simp; omega)) (w2.heap.size + 1) (by simp) ?_; intro g3 p3 w3 hown hgrow hat hlt; have O3 : Ob w.heap.size (.slice (some ⟨g3, 0, none⟩) 3 p3) ([z0, z1] ++ [z2]) w3 := Ob.push (X := [z0, z1]) (Z := [z2]) rfl rfl hown; have b3 := b2.trans (below_own (grown_new hgrow) b2.size (own_block O2)); clear hown hgrow hat hlt; have cv := O3.conv)
  rw [rounds_succ]
  go_wp2
  go_ret
  exact ⟨rfl, b3⟩
theorem whole_3 (n : Int) (h0 : -8388608 ≤ n) (h1 : n < 8388608) (h2 : ¬ (-32768 ≤ n ∧ n < 32768)) (w : World) : Calls Try.prog 30 #[.int .i64 n] w fun r w' => r = .returned (.string (strOfNums (dg 3 n))) ∧ Below w.heap.size w w' := by
  by_cases hs : n < 0
  · exact whole_3n n h0 h1 h2 hs w
  · exact whole_3p n h0 h1 h2 (by omega) w
set_option maxHeartbeats 3200000 in
theorem whole_4p (n : Int) (h0 : -2147483648 ≤ n) (h1 : n < 2147483648) (h2 : ¬ (-8388608 ≤ n ∧ n < 8388608)) (hs : 0 ≤ n) (w : World) : Calls Try.prog 30 #[.int .i64 n] w fun r w' => r = .returned (.string (strOfNums (dg 4 n))) ∧ Below w.heap.size w w' := by
  obtain ⟨i0, hi, hz0, hz1, hz2⟩ := info_parts u8_info
  rw [dg4]
  have e0 : (n / 128 != 0) = true := by simp; omega
  have f0 : (n / 128 != -1) = true := by simp; omega
  have e1 : (n / 32768 != 0) = true := by simp; omega
  have f1 : (n / 32768 != -1) = true := by simp; omega
  have e2 : (n / 8388608 != 0) = true := by simp; omega
  have f2 : (n / 8388608 != -1) = true := by simp; omega
  have e3 : (n / 2147483648 != 0) = false := by simp; omega
  have c0 : IntKind.u8.wrap (n / 16777216) = n / 256 / 256 / 256 % 256 := by simp [IntKind.wrap, IntKind.bits, IntKind.signed] <;> omega
  have c1 : IntKind.u8.wrap (n / 65536) = n / 256 / 256 % 256 := by simp [IntKind.wrap, IntKind.bits, IntKind.signed] <;> omega
  have c2 : IntKind.u8.wrap (n / 256) = n / 256 % 256 := by simp [IntKind.wrap, IntKind.bits, IntKind.signed] <;> omega
  have c3 : IntKind.u8.wrap (n) = n % 256 := by simp [IntKind.wrap, IntKind.bits, IntKind.signed] <;> omega
  generalize n / 256 / 256 / 256 % 256 = z0 at *
  generalize n / 256 / 256 % 256 = z1 at *
  generalize n / 256 % 256 = z2 at *
  generalize n % 256 = z3 at *
  have O0 : Ob w.heap.size (.slice none 0 0) [] w := ⟨rfl, .inl ⟨rfl, rfl⟩⟩
  have b0 := Below.refl w.heap.size w
  clear h0 h1 hs h2
  go_enter Try.func30, Try.ntmps30
  go_wp2
  refine wp_loop_rounds 4 ?_
  rw [rounds_succ]
  go_wp2
  rw [rounds_succ]
  go_wp2
  rw [rounds_succ]
  go_wp2
  rw [rounds_succ]
  go_wp2
  refine wp_loop_rounds 5 ?_
  rw [rounds_succ]
  go_wp2_with (at_builtin; refine wpList_append_lies _ rfl _ _ 71 rfl w.heap.size 5 i0 _ 1 1 Try.underlying71 hi hz0 hz1 hz2 rfl (by omega) _ 0 _ rfl (World.ownsRow.alloc O0 _) ⟨w.heap.size, 0, none⟩ 1 1 [.int .u8 z0] rfl rfl (World.news_of_block (cs := #[.int .u8 z0]) (t := 5) (fr := (0, 0)) (heap_new w _)) (by simp [Value.oneCell']) (by omega) (by unfold maxLen; omega) (by omega) (by have := b0.size; first | (simp; done) | (simp; omega)) (w.heap.size + 1) (by simp) ?_; intro g1 p1 w1 hown hgrow hat hlt; have O1 : Ob w.heap.size (.slice (some ⟨g1, 0, none⟩) 1 p1) ([] ++ [z0]) w1 := Ob.push (X := []) (Z := [z0]) rfl rfl hown; have b1 := b0.trans (below_own (grown_new hgrow) b0.size (own_block O0)); clear hown hgrow hat hlt)
  rw [rounds_succ]
  go_wp2_with (at_builtin; refine wpList_append_lies _ rfl _ _ 71 rfl w.heap.size 5 i0 _ 1 1 Try.underlying71 hi hz0 hz1 hz2 rfl (by omega) _ 1 _ rfl (World.ownsRow.alloc O1 _) ⟨w1.heap.size, 0, none⟩ 1 1 [.int .u8 z1] rfl rfl (World.news_of_block (cs := #[.int .u8 z1]) (t := 5) (fr := (0, 0)) (heap_new w1 _)) (by simp [Value.oneCell']) (by omega) (by unfold maxLen; omega) (by omega) (by have := b1.size; first | (simp; done) | (simp; omega)) (w1.heap.size + 1) (by simp) ?_; intro g2 p2 w2 hown hgrow hat hlt; have O2 : Ob w.heap.size (.slice (some ⟨g2, 0, none⟩) 2 p2) ([z0] ++ [z1]) w2 := Ob.push (X := [z0]) (Z := [z1]) rfl rfl hown; have b2 := b1.trans (below_own (grown_new hgrow) b1.size (own_block O1)); clear hown hgrow hat hlt)
  rw [rounds_succ]
  go_wp2_with (at_builtin; refine wpList_append_lies _ rfl _ _ 71 rfl w.heap.size 5 i0 _ 1 1 Try.underlying71 hi hz0 hz1 hz2 rfl (by omega) _ 2 _ rfl (World.ownsRow.alloc O2 _) ⟨w2.heap.size, 0, none⟩ 1 1 [.int .u8 z2] rfl rfl (World.news_of_block (cs := #[.int .u8 z2]) (t := 5) (fr := (0, 0)) (heap_new w2 _)) (by simp [Value.oneCell']) (by omega) (by unfold maxLen; omega) (by omega) (by have := b2.size; first | (simp; done) | (simp; omega)) (w2.heap.size + 1) (by simp) ?_; intro g3 p3 w3 hown hgrow hat hlt; have O3 : Ob w.heap.size (.slice (some ⟨g3, 0, none⟩) 3 p3) ([z0, z1] ++ [z2]) w3 := Ob.push (X := [z0, z1]) (Z := [z2]) rfl rfl hown; have b3 := b2.trans (below_own (grown_new hgrow) b2.size (own_block O2)); clear hown hgrow hat hlt)
  rw [rounds_succ]
  go_wp2_with (at_builtin; refine wpList_append_lies _ rfl _ _ 71 rfl w.heap.size 5 i0 _ 1 1 Try.underlying71 hi hz0 hz1 hz2 rfl (by omega) _ 3 _ rfl (World.ownsRow.alloc O3 _) ⟨w3.heap.size, 0, none⟩ 1 1 [.int .u8 z3] rfl rfl (World.news_of_block (cs := #[.int .u8 z3]) (t := 5) (fr := (0, 0)) (heap_new w3 _)) (by simp [Value.oneCell']) (by omega) (by unfold maxLen; omega) (by omega) (by have := b3.size; first | (simp; done) | (simp; omega)) (w3.heap.size + 1) (by simp) ?_; intro g4 p4 w4 hown hgrow hat hlt; have O4 : Ob w.heap.size (.slice (some ⟨g4, 0, none⟩) 4 p4) ([z0, z1, z2] ++ [z3]) w4 := Ob.push (X := [z0, z1, z2]) (Z := [z3]) rfl rfl hown; have b4 := b3.trans (below_own (grown_new hgrow) b3.size (own_block O3)); clear hown hgrow hat hlt; have cv := O4.conv)
  rw [rounds_succ]
  go_wp2
  go_ret
  exact ⟨rfl, b4⟩
set_option maxHeartbeats 3200000 in
theorem whole_4n (n : Int) (h0 : -2147483648 ≤ n) (h1 : n < 2147483648) (h2 : ¬ (-8388608 ≤ n ∧ n < 8388608)) (hs : n < 0) (w : World) : Calls Try.prog 30 #[.int .i64 n] w fun r w' => r = .returned (.string (strOfNums (dg 4 n))) ∧ Below w.heap.size w w' := by
  obtain ⟨i0, hi, hz0, hz1, hz2⟩ := info_parts u8_info
  rw [dg4]
  have e0 : (n / 128 != 0) = true := by simp; omega
  have f0 : (n / 128 != -1) = true := by simp; omega
  have e1 : (n / 32768 != 0) = true := by simp; omega
  have f1 : (n / 32768 != -1) = true := by simp; omega
  have e2 : (n / 8388608 != 0) = true := by simp; omega
  have f2 : (n / 8388608 != -1) = true := by simp; omega
  have e3 : (n / 2147483648 != 0) = true := by simp; omega
  have f3 : (n / 2147483648 != -1) = false := by simp; omega
  have c0 : IntKind.u8.wrap (n / 16777216) = n / 256 / 256 / 256 % 256 := by simp [IntKind.wrap, IntKind.bits, IntKind.signed] <;> omega
  have c1 : IntKind.u8.wrap (n / 65536) = n / 256 / 256 % 256 := by simp [IntKind.wrap, IntKind.bits, IntKind.signed] <;> omega
  have c2 : IntKind.u8.wrap (n / 256) = n / 256 % 256 := by simp [IntKind.wrap, IntKind.bits, IntKind.signed] <;> omega
  have c3 : IntKind.u8.wrap (n) = n % 256 := by simp [IntKind.wrap, IntKind.bits, IntKind.signed] <;> omega
  generalize n / 256 / 256 / 256 % 256 = z0 at *
  generalize n / 256 / 256 % 256 = z1 at *
  generalize n / 256 % 256 = z2 at *
  generalize n % 256 = z3 at *
  have O0 : Ob w.heap.size (.slice none 0 0) [] w := ⟨rfl, .inl ⟨rfl, rfl⟩⟩
  have b0 := Below.refl w.heap.size w
  clear h0 h1 hs h2
  go_enter Try.func30, Try.ntmps30
  go_wp2
  refine wp_loop_rounds 4 ?_
  rw [rounds_succ]
  go_wp2
  rw [rounds_succ]
  go_wp2
  rw [rounds_succ]
  go_wp2
  rw [rounds_succ]
  go_wp2
  refine wp_loop_rounds 5 ?_
  rw [rounds_succ]
  go_wp2_with (at_builtin; refine wpList_append_lies _ rfl _ _ 71 rfl w.heap.size 5 i0 _ 1 1 Try.underlying71 hi hz0 hz1 hz2 rfl (by omega) _ 0 _ rfl (World.ownsRow.alloc O0 _) ⟨w.heap.size, 0, none⟩ 1 1 [.int .u8 z0] rfl rfl (World.news_of_block (cs := #[.int .u8 z0]) (t := 5) (fr := (0, 0)) (heap_new w _)) (by simp [Value.oneCell']) (by omega) (by unfold maxLen; omega) (by omega) (by have := b0.size; first | (simp; done) | (simp; omega)) (w.heap.size + 1) (by simp) ?_; intro g1 p1 w1 hown hgrow hat hlt; have O1 : Ob w.heap.size (.slice (some ⟨g1, 0, none⟩) 1 p1) ([] ++ [z0]) w1 := Ob.push (X := []) (Z := [z0]) rfl rfl hown; have b1 := b0.trans (below_own (grown_new hgrow) b0.size (own_block O0)); clear hown hgrow hat hlt)
  rw [rounds_succ]
  go_wp2_with (at_builtin; refine wpList_append_lies _ rfl _ _ 71 rfl w.heap.size 5 i0 _ 1 1 Try.underlying71 hi hz0 hz1 hz2 rfl (by omega) _ 1 _ rfl (World.ownsRow.alloc O1 _) ⟨w1.heap.size, 0, none⟩ 1 1 [.int .u8 z1] rfl rfl (World.news_of_block (cs := #[.int .u8 z1]) (t := 5) (fr := (0, 0)) (heap_new w1 _)) (by simp [Value.oneCell']) (by omega) (by unfold maxLen; omega) (by omega) (by have := b1.size; first | (simp; done) | (simp; omega)) (w1.heap.size + 1) (by simp) ?_; intro g2 p2 w2 hown hgrow hat hlt; have O2 : Ob w.heap.size (.slice (some ⟨g2, 0, none⟩) 2 p2) ([z0] ++ [z1]) w2 := Ob.push (X := [z0]) (Z := [z1]) rfl rfl hown; have b2 := b1.trans (below_own (grown_new hgrow) b1.size (own_block O1)); clear hown hgrow hat hlt)
  rw [rounds_succ]
  go_wp2_with (at_builtin; refine wpList_append_lies _ rfl _ _ 71 rfl w.heap.size 5 i0 _ 1 1 Try.underlying71 hi hz0 hz1 hz2 rfl (by omega) _ 2 _ rfl (World.ownsRow.alloc O2 _) ⟨w2.heap.size, 0, none⟩ 1 1 [.int .u8 z2] rfl rfl (World.news_of_block (cs := #[.int .u8 z2]) (t := 5) (fr := (0, 0)) (heap_new w2 _)) (by simp [Value.oneCell']) (by omega) (by unfold maxLen; omega) (by omega) (by have := b2.size; first | (simp; done) | (simp; omega)) (w2.heap.size + 1) (by simp) ?_; intro g3 p3 w3 hown hgrow hat hlt; have O3 : Ob w.heap.size (.slice (some ⟨g3, 0, none⟩) 3 p3) ([z0, z1] ++ [z2]) w3 := Ob.push (X := [z0, z1]) (Z := [z2]) rfl rfl hown; have b3 := b2.trans (below_own (grown_new hgrow) b2.size (own_block O2)); clear hown hgrow hat hlt)
  rw [rounds_succ]
  go_wp2_with (at_builtin; refine wpList_append_lies _ rfl _ _ 71 rfl w.heap.size 5 i0 _ 1 1 Try.underlying71 hi hz0 hz1 hz2 rfl (by omega) _ 3 _ rfl (World.ownsRow.alloc O3 _) ⟨w3.heap.size, 0, none⟩ 1 1 [.int .u8 z3] rfl rfl (World.news_of_block (cs := #[.int .u8 z3]) (t := 5) (fr := (0, 0)) (heap_new w3 _)) (by simp [Value.oneCell']) (by omega) (by unfold maxLen; omega) (by omega) (by have := b3.size; first | (simp; done) | (simp; omega)) (w3.heap.size + 1) (by simp) ?_; intro g4 p4 w4 hown hgrow hat hlt; have O4 : Ob w.heap.size (.slice (some ⟨g4, 0, none⟩) 4 p4) ([z0, z1, z2] ++ [z3]) w4 := Ob.push (X := [z0, z1, z2]) (Z := [z3]) rfl rfl hown; have b4 := b3.trans (below_own (grown_new hgrow) b3.size (own_block O3)); clear hown hgrow hat hlt; have cv := O4.conv)
  rw [rounds_succ]
  go_wp2
  go_ret
  exact ⟨rfl, b4⟩
theorem whole_4 (n : Int) (h0 : -2147483648 ≤ n) (h1 : n < 2147483648) (h2 : ¬ (-8388608 ≤ n ∧ n < 8388608)) (w : World) : Calls Try.prog 30 #[.int .i64 n] w fun r w' => r = .returned (.string (strOfNums (dg 4 n))) ∧ Below w.heap.size w w' := by
  by_cases hs : n < 0
  · exact whole_4n n h0 h1 h2 hs w
  · exact whole_4p n h0 h1 h2 (by omega) w
theorem whole_any (n : Int) (h0 : -2147483648 ≤ n) (h1 : n ≤ 2147483647) (w : World) : Calls Try.prog 30 #[.int .i64 n] w fun r w' => r = .returned (.string (strOfNums (bytI n))) ∧ Below w.heap.size w w' := by
  unfold bytI
  split
  · rename_i h; exact whole_1 n h.1 h.2 w
  · rename_i n1
    split
    · rename_i h; exact whole_2 n h.1 h.2 n1 w
    · rename_i n2
      split
      · rename_i h; exact whole_3 n h.1 h.2 n2 w
      · rename_i n3
        rw [if_pos (by omega)]
        exact whole_4 n h0 (by omega) n3 w
end Go.Proofs.Ytcboggoindhmkaa
