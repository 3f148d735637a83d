/- The landed putNamed: what is named by itself is put behind a row of the call's own. -/
import Derived.Test.YtbffmopenjjjlaaDoorNm9
namespace Go.Proofs.YtbffmopenjjjlaaDoor
open Go.RowKit

/-- What an append leaves. -/
theorem Rn.app {w1 : World} {B g1 cap1 N m : Nat} {es zs : List Int} (hN : N = es.length) (hm : m = zs.length) (h : w1.ownsRow B 21 1 (.slice (.some ⟨g1, 0, none⟩) (N + m) cap1) (N + m) (es.map (Value.int .i32) ++ zs.map (Value.int .i32))) : Rn B (.slice (.some ⟨g1, 0, none⟩) (N + m) cap1) (es ++ zs) w1 := by
  subst hN hm
  unfold Rn
  rw [List.length_append, List.map_append]
  exact h
set_option maxHeartbeats 1600000 in
theorem putn_181 (B : Nat) (v : Value) (T : List Int) (w : World) (hB : B ≤ w.heap.size) (h : Rn B v T w) (hT : T.length ≤ 100000) : Calls Tryd.prog 23 #[v, .int .i32 181] w fun e w' => ∃ v', e = .returned v' ∧ Rn B v' (T ++ [956]) w' ∧ Below B w w' := by
  obtain ⟨i0, hi, hz0, hz1, hz2⟩ := info_parts elem_info
  obtain ⟨xa, xc, hv⟩ := h.shape
  obtain ⟨N, hN⟩ : ∃ N, N = T.length := ⟨_, rfl⟩
  rw [← hN] at hv hT
  have HN := hide hN
  clear hN
  subst hv
  have HO := hide h
  clear h
  have hm1 : N + 1 ≤ maxLen := by unfold maxLen; omega
  have hm2 : (N + 1) * 4 ≤ 140737488355328 := by omega
  go_enter Tryd.func23, Tryd.ntmps23
  go_wp2_with (at_builtin; refine wpList_append_lies _ rfl _ _ 23 rfl B 21 i0 _ 1 4 Tryd.underlying23 hi hz0 hz1 hz2 rfl (by omega) _ N _ rfl (World.ownsRow.alloc (Rn.own (unhide HN) (unhide HO)) _) ⟨w.heap.size, 0, none⟩ 1 1 [.int .i32 956] rfl rfl (World.news_of_block (cs := #[.int .i32 956]) (t := 21) (fr := (0, 0)) (heap_new w _)) (by simp [Value.oneCell']) (by omega) hm1 hm2 (by simp; omega) (w.heap.size + 1) (by simp) ?_; intro g9 cap9 w9 hown9 hgrow9 hat9 hlt9)
  go_ret
  exact ⟨_, rfl, Rn.app (zs := [956]) (unhide HN) rfl hown9, ((Gr.one w _).below.mono hB).trans (below_own hgrow9 (by simp; omega) (own_block (Rn.own (unhide HN) (unhide HO))))⟩
set_option maxHeartbeats 1600000 in
theorem putn_223 (B : Nat) (v : Value) (T : List Int) (w : World) (hB : B ≤ w.heap.size) (h : Rn B v T w) (hT : T.length ≤ 100000) : Calls Tryd.prog 23 #[v, .int .i32 223] w fun e w' => ∃ v', e = .returned v' ∧ Rn B v' (T ++ [115, 115]) w' ∧ Below B w w' := by
  obtain ⟨i0, hi, hz0, hz1, hz2⟩ := info_parts elem_info
  obtain ⟨xa, xc, hv⟩ := h.shape
  obtain ⟨N, hN⟩ : ∃ N, N = T.length := ⟨_, rfl⟩
  rw [← hN] at hv hT
  have HN := hide hN
  clear hN
  subst hv
  have HO := hide h
  clear h
  have hm1 : N + 2 ≤ maxLen := by unfold maxLen; omega
  have hm2 : (N + 2) * 4 ≤ 140737488355328 := by omega
  go_enter Tryd.func23, Tryd.ntmps23
  go_wp2_with (at_builtin; refine wpList_append_lies _ rfl _ _ 23 rfl B 21 i0 _ 1 4 Tryd.underlying23 hi hz0 hz1 hz2 rfl (by omega) _ N _ rfl (World.ownsRow.alloc (Rn.own (unhide HN) (unhide HO)) _) ⟨w.heap.size, 0, none⟩ 2 2 [.int .i32 115, .int .i32 115] rfl rfl (World.news_of_block (cs := #[.int .i32 115, .int .i32 115]) (t := 21) (fr := (0, 0)) (heap_new w _)) (by simp [Value.oneCell']) (by omega) hm1 hm2 (by simp; omega) (w.heap.size + 1) (by simp) ?_; intro g9 cap9 w9 hown9 hgrow9 hat9 hlt9)
  go_ret
  exact ⟨_, rfl, Rn.app (zs := [115, 115]) (unhide HN) rfl hown9, ((Gr.one w _).below.mono hB).trans (below_own hgrow9 (by simp; omega) (own_block (Rn.own (unhide HN) (unhide HO))))⟩
set_option maxHeartbeats 1600000 in
theorem putn_304 (B : Nat) (v : Value) (T : List Int) (w : World) (hB : B ≤ w.heap.size) (h : Rn B v T w) (hT : T.length ≤ 100000) : Calls Tryd.prog 23 #[v, .int .i32 304] w fun e w' => ∃ v', e = .returned v' ∧ Rn B v' (T ++ [105, 775]) w' ∧ Below B w w' := by
  obtain ⟨i0, hi, hz0, hz1, hz2⟩ := info_parts elem_info
  obtain ⟨xa, xc, hv⟩ := h.shape
  obtain ⟨N, hN⟩ : ∃ N, N = T.length := ⟨_, rfl⟩
  rw [← hN] at hv hT
  have HN := hide hN
  clear hN
  subst hv
  have HO := hide h
  clear h
  have hm1 : N + 2 ≤ maxLen := by unfold maxLen; omega
  have hm2 : (N + 2) * 4 ≤ 140737488355328 := by omega
  go_enter Tryd.func23, Tryd.ntmps23
  go_wp2_with (at_builtin; refine wpList_append_lies _ rfl _ _ 23 rfl B 21 i0 _ 1 4 Tryd.underlying23 hi hz0 hz1 hz2 rfl (by omega) _ N _ rfl (World.ownsRow.alloc (Rn.own (unhide HN) (unhide HO)) _) ⟨w.heap.size, 0, none⟩ 2 2 [.int .i32 105, .int .i32 775] rfl rfl (World.news_of_block (cs := #[.int .i32 105, .int .i32 775]) (t := 21) (fr := (0, 0)) (heap_new w _)) (by simp [Value.oneCell']) (by omega) hm1 hm2 (by simp; omega) (w.heap.size + 1) (by simp) ?_; intro g9 cap9 w9 hown9 hgrow9 hat9 hlt9)
  go_ret
  exact ⟨_, rfl, Rn.app (zs := [105, 775]) (unhide HN) rfl hown9, ((Gr.one w _).below.mono hB).trans (below_own hgrow9 (by simp; omega) (own_block (Rn.own (unhide HN) (unhide HO))))⟩
set_option maxHeartbeats 1600000 in
theorem putn_329 (B : Nat) (v : Value) (T : List Int) (w : World) (hB : B ≤ w.heap.size) (h : Rn B v T w) (hT : T.length ≤ 100000) : Calls Tryd.prog 23 #[v, .int .i32 329] w fun e w' => ∃ v', e = .returned v' ∧ Rn B v' (T ++ [700, 110]) w' ∧ Below B w w' := by
  obtain ⟨i0, hi, hz0, hz1, hz2⟩ := info_parts elem_info
  obtain ⟨xa, xc, hv⟩ := h.shape
  obtain ⟨N, hN⟩ : ∃ N, N = T.length := ⟨_, rfl⟩
  rw [← hN] at hv hT
  have HN := hide hN
  clear hN
  subst hv
  have HO := hide h
  clear h
  have hm1 : N + 2 ≤ maxLen := by unfold maxLen; omega
  have hm2 : (N + 2) * 4 ≤ 140737488355328 := by omega
  go_enter Tryd.func23, Tryd.ntmps23
  go_wp2_with (at_builtin; refine wpList_append_lies _ rfl _ _ 23 rfl B 21 i0 _ 1 4 Tryd.underlying23 hi hz0 hz1 hz2 rfl (by omega) _ N _ rfl (World.ownsRow.alloc (Rn.own (unhide HN) (unhide HO)) _) ⟨w.heap.size, 0, none⟩ 2 2 [.int .i32 700, .int .i32 110] rfl rfl (World.news_of_block (cs := #[.int .i32 700, .int .i32 110]) (t := 21) (fr := (0, 0)) (heap_new w _)) (by simp [Value.oneCell']) (by omega) hm1 hm2 (by simp; omega) (w.heap.size + 1) (by simp) ?_; intro g9 cap9 w9 hown9 hgrow9 hat9 hlt9)
  go_ret
  exact ⟨_, rfl, Rn.app (zs := [700, 110]) (unhide HN) rfl hown9, ((Gr.one w _).below.mono hB).trans (below_own hgrow9 (by simp; omega) (own_block (Rn.own (unhide HN) (unhide HO))))⟩
set_option maxHeartbeats 1600000 in
theorem putn_376 (B : Nat) (v : Value) (T : List Int) (w : World) (hB : B ≤ w.heap.size) (h : Rn B v T w) (hT : T.length ≤ 100000) : Calls Tryd.prog 23 #[v, .int .i32 376] w fun e w' => ∃ v', e = .returned v' ∧ Rn B v' (T ++ [255]) w' ∧ Below B w w' := by
  obtain ⟨i0, hi, hz0, hz1, hz2⟩ := info_parts elem_info
  obtain ⟨xa, xc, hv⟩ := h.shape
  obtain ⟨N, hN⟩ : ∃ N, N = T.length := ⟨_, rfl⟩
  rw [← hN] at hv hT
  have HN := hide hN
  clear hN
  subst hv
  have HO := hide h
  clear h
  have hm1 : N + 1 ≤ maxLen := by unfold maxLen; omega
  have hm2 : (N + 1) * 4 ≤ 140737488355328 := by omega
  go_enter Tryd.func23, Tryd.ntmps23
  go_wp2_with (at_builtin; refine wpList_append_lies _ rfl _ _ 23 rfl B 21 i0 _ 1 4 Tryd.underlying23 hi hz0 hz1 hz2 rfl (by omega) _ N _ rfl (World.ownsRow.alloc (Rn.own (unhide HN) (unhide HO)) _) ⟨w.heap.size, 0, none⟩ 1 1 [.int .i32 255] rfl rfl (World.news_of_block (cs := #[.int .i32 255]) (t := 21) (fr := (0, 0)) (heap_new w _)) (by simp [Value.oneCell']) (by omega) hm1 hm2 (by simp; omega) (w.heap.size + 1) (by simp) ?_; intro g9 cap9 w9 hown9 hgrow9 hat9 hlt9)
  go_ret
  exact ⟨_, rfl, Rn.app (zs := [255]) (unhide HN) rfl hown9, ((Gr.one w _).below.mono hB).trans (below_own hgrow9 (by simp; omega) (own_block (Rn.own (unhide HN) (unhide HO))))⟩
set_option maxHeartbeats 1600000 in
theorem putn_383 (B : Nat) (v : Value) (T : List Int) (w : World) (hB : B ≤ w.heap.size) (h : Rn B v T w) (hT : T.length ≤ 100000) : Calls Tryd.prog 23 #[v, .int .i32 383] w fun e w' => ∃ v', e = .returned v' ∧ Rn B v' (T ++ [115]) w' ∧ Below B w w' := by
  obtain ⟨i0, hi, hz0, hz1, hz2⟩ := info_parts elem_info
  obtain ⟨xa, xc, hv⟩ := h.shape
  obtain ⟨N, hN⟩ : ∃ N, N = T.length := ⟨_, rfl⟩
  rw [← hN] at hv hT
  have HN := hide hN
  clear hN
  subst hv
  have HO := hide h
  clear h
  have hm1 : N + 1 ≤ maxLen := by unfold maxLen; omega
  have hm2 : (N + 1) * 4 ≤ 140737488355328 := by omega
  go_enter Tryd.func23, Tryd.ntmps23
  go_wp2_with (at_builtin; refine wpList_append_lies _ rfl _ _ 23 rfl B 21 i0 _ 1 4 Tryd.underlying23 hi hz0 hz1 hz2 rfl (by omega) _ N _ rfl (World.ownsRow.alloc (Rn.own (unhide HN) (unhide HO)) _) ⟨w.heap.size, 0, none⟩ 1 1 [.int .i32 115] rfl rfl (World.news_of_block (cs := #[.int .i32 115]) (t := 21) (fr := (0, 0)) (heap_new w _)) (by simp [Value.oneCell']) (by omega) hm1 hm2 (by simp; omega) (w.heap.size + 1) (by simp) ?_; intro g9 cap9 w9 hown9 hgrow9 hat9 hlt9)
  go_ret
  exact ⟨_, rfl, Rn.app (zs := [115]) (unhide HN) rfl hown9, ((Gr.one w _).below.mono hB).trans (below_own hgrow9 (by simp; omega) (own_block (Rn.own (unhide HN) (unhide HO))))⟩
set_option maxHeartbeats 1600000 in
theorem putn_902 (B : Nat) (v : Value) (T : List Int) (w : World) (hB : B ≤ w.heap.size) (h : Rn B v T w) (hT : T.length ≤ 100000) : Calls Tryd.prog 23 #[v, .int .i32 902] w fun e w' => ∃ v', e = .returned v' ∧ Rn B v' (T ++ [940]) w' ∧ Below B w w' := by
  obtain ⟨i0, hi, hz0, hz1, hz2⟩ := info_parts elem_info
  obtain ⟨xa, xc, hv⟩ := h.shape
  obtain ⟨N, hN⟩ : ∃ N, N = T.length := ⟨_, rfl⟩
  rw [← hN] at hv hT
  have HN := hide hN
  clear hN
  subst hv
  have HO := hide h
  clear h
  have hm1 : N + 1 ≤ maxLen := by unfold maxLen; omega
  have hm2 : (N + 1) * 4 ≤ 140737488355328 := by omega
  go_enter Tryd.func23, Tryd.ntmps23
  go_wp2_with (at_builtin; refine wpList_append_lies _ rfl _ _ 23 rfl B 21 i0 _ 1 4 Tryd.underlying23 hi hz0 hz1 hz2 rfl (by omega) _ N _ rfl (World.ownsRow.alloc (Rn.own (unhide HN) (unhide HO)) _) ⟨w.heap.size, 0, none⟩ 1 1 [.int .i32 940] rfl rfl (World.news_of_block (cs := #[.int .i32 940]) (t := 21) (fr := (0, 0)) (heap_new w _)) (by simp [Value.oneCell']) (by omega) hm1 hm2 (by simp; omega) (w.heap.size + 1) (by simp) ?_; intro g9 cap9 w9 hown9 hgrow9 hat9 hlt9)
  go_ret
  exact ⟨_, rfl, Rn.app (zs := [940]) (unhide HN) rfl hown9, ((Gr.one w _).below.mono hB).trans (below_own hgrow9 (by simp; omega) (own_block (Rn.own (unhide HN) (unhide HO))))⟩
set_option maxHeartbeats 1600000 in
theorem putn_908 (B : Nat) (v : Value) (T : List Int) (w : World) (hB : B ≤ w.heap.size) (h : Rn B v T w) (hT : T.length ≤ 100000) : Calls Tryd.prog 23 #[v, .int .i32 908] w fun e w' => ∃ v', e = .returned v' ∧ Rn B v' (T ++ [972]) w' ∧ Below B w w' := by
  obtain ⟨i0, hi, hz0, hz1, hz2⟩ := info_parts elem_info
  obtain ⟨xa, xc, hv⟩ := h.shape
  obtain ⟨N, hN⟩ : ∃ N, N = T.length := ⟨_, rfl⟩
  rw [← hN] at hv hT
  have HN := hide hN
  clear hN
  subst hv
  have HO := hide h
  clear h
  have hm1 : N + 1 ≤ maxLen := by unfold maxLen; omega
  have hm2 : (N + 1) * 4 ≤ 140737488355328 := by omega
  go_enter Tryd.func23, Tryd.ntmps23
  go_wp2_with (at_builtin; refine wpList_append_lies _ rfl _ _ 23 rfl B 21 i0 _ 1 4 Tryd.underlying23 hi hz0 hz1 hz2 rfl (by omega) _ N _ rfl (World.ownsRow.alloc (Rn.own (unhide HN) (unhide HO)) _) ⟨w.heap.size, 0, none⟩ 1 1 [.int .i32 972] rfl rfl (World.news_of_block (cs := #[.int .i32 972]) (t := 21) (fr := (0, 0)) (heap_new w _)) (by simp [Value.oneCell']) (by omega) hm1 hm2 (by simp; omega) (w.heap.size + 1) (by simp) ?_; intro g9 cap9 w9 hown9 hgrow9 hat9 hlt9)
  go_ret
  exact ⟨_, rfl, Rn.app (zs := [972]) (unhide HN) rfl hown9, ((Gr.one w _).below.mono hB).trans (below_own hgrow9 (by simp; omega) (own_block (Rn.own (unhide HN) (unhide HO))))⟩
set_option maxHeartbeats 1600000 in
theorem putn_910 (B : Nat) (v : Value) (T : List Int) (w : World) (hB : B ≤ w.heap.size) (h : Rn B v T w) (hT : T.length ≤ 100000) : Calls Tryd.prog 23 #[v, .int .i32 910] w fun e w' => ∃ v', e = .returned v' ∧ Rn B v' (T ++ [973]) w' ∧ Below B w w' := by
  obtain ⟨i0, hi, hz0, hz1, hz2⟩ := info_parts elem_info
  obtain ⟨xa, xc, hv⟩ := h.shape
  obtain ⟨N, hN⟩ : ∃ N, N = T.length := ⟨_, rfl⟩
  rw [← hN] at hv hT
  have HN := hide hN
  clear hN
  subst hv
  have HO := hide h
  clear h
  have hm1 : N + 1 ≤ maxLen := by unfold maxLen; omega
  have hm2 : (N + 1) * 4 ≤ 140737488355328 := by omega
  go_enter Tryd.func23, Tryd.ntmps23
  go_wp2_with (at_builtin; refine wpList_append_lies _ rfl _ _ 23 rfl B 21 i0 _ 1 4 Tryd.underlying23 hi hz0 hz1 hz2 rfl (by omega) _ N _ rfl (World.ownsRow.alloc (Rn.own (unhide HN) (unhide HO)) _) ⟨w.heap.size, 0, none⟩ 1 1 [.int .i32 973] rfl rfl (World.news_of_block (cs := #[.int .i32 973]) (t := 21) (fr := (0, 0)) (heap_new w _)) (by simp [Value.oneCell']) (by omega) hm1 hm2 (by simp; omega) (w.heap.size + 1) (by simp) ?_; intro g9 cap9 w9 hown9 hgrow9 hat9 hlt9)
  go_ret
  exact ⟨_, rfl, Rn.app (zs := [973]) (unhide HN) rfl hown9, ((Gr.one w _).below.mono hB).trans (below_own hgrow9 (by simp; omega) (own_block (Rn.own (unhide HN) (unhide HO))))⟩
set_option maxHeartbeats 1600000 in
theorem putn_911 (B : Nat) (v : Value) (T : List Int) (w : World) (hB : B ≤ w.heap.size) (h : Rn B v T w) (hT : T.length ≤ 100000) : Calls Tryd.prog 23 #[v, .int .i32 911] w fun e w' => ∃ v', e = .returned v' ∧ Rn B v' (T ++ [974]) w' ∧ Below B w w' := by
  obtain ⟨i0, hi, hz0, hz1, hz2⟩ := info_parts elem_info
  obtain ⟨xa, xc, hv⟩ := h.shape
  obtain ⟨N, hN⟩ : ∃ N, N = T.length := ⟨_, rfl⟩
  rw [← hN] at hv hT
  have HN := hide hN
  clear hN
  subst hv
  have HO := hide h
  clear h
  have hm1 : N + 1 ≤ maxLen := by unfold maxLen; omega
  have hm2 : (N + 1) * 4 ≤ 140737488355328 := by omega
  go_enter Tryd.func23, Tryd.ntmps23
  go_wp2_with (at_builtin; refine wpList_append_lies _ rfl _ _ 23 rfl B 21 i0 _ 1 4 Tryd.underlying23 hi hz0 hz1 hz2 rfl (by omega) _ N _ rfl (World.ownsRow.alloc (Rn.own (unhide HN) (unhide HO)) _) ⟨w.heap.size, 0, none⟩ 1 1 [.int .i32 974] rfl rfl (World.news_of_block (cs := #[.int .i32 974]) (t := 21) (fr := (0, 0)) (heap_new w _)) (by simp [Value.oneCell']) (by omega) hm1 hm2 (by simp; omega) (w.heap.size + 1) (by simp) ?_; intro g9 cap9 w9 hown9 hgrow9 hat9 hlt9)
  go_ret
  exact ⟨_, rfl, Rn.app (zs := [974]) (unhide HN) rfl hown9, ((Gr.one w _).below.mono hB).trans (below_own hgrow9 (by simp; omega) (own_block (Rn.own (unhide HN) (unhide HO))))⟩
set_option maxHeartbeats 1600000 in
theorem putn_962 (B : Nat) (v : Value) (T : List Int) (w : World) (hB : B ≤ w.heap.size) (h : Rn B v T w) (hT : T.length ≤ 100000) : Calls Tryd.prog 23 #[v, .int .i32 962] w fun e w' => ∃ v', e = .returned v' ∧ Rn B v' (T ++ [963]) w' ∧ Below B w w' := by
  obtain ⟨i0, hi, hz0, hz1, hz2⟩ := info_parts elem_info
  obtain ⟨xa, xc, hv⟩ := h.shape
  obtain ⟨N, hN⟩ : ∃ N, N = T.length := ⟨_, rfl⟩
  rw [← hN] at hv hT
  have HN := hide hN
  clear hN
  subst hv
  have HO := hide h
  clear h
  have hm1 : N + 1 ≤ maxLen := by unfold maxLen; omega
  have hm2 : (N + 1) * 4 ≤ 140737488355328 := by omega
  go_enter Tryd.func23, Tryd.ntmps23
  go_wp2_with (at_builtin; refine wpList_append_lies _ rfl _ _ 23 rfl B 21 i0 _ 1 4 Tryd.underlying23 hi hz0 hz1 hz2 rfl (by omega) _ N _ rfl (World.ownsRow.alloc (Rn.own (unhide HN) (unhide HO)) _) ⟨w.heap.size, 0, none⟩ 1 1 [.int .i32 963] rfl rfl (World.news_of_block (cs := #[.int .i32 963]) (t := 21) (fr := (0, 0)) (heap_new w _)) (by simp [Value.oneCell']) (by omega) hm1 hm2 (by simp; omega) (w.heap.size + 1) (by simp) ?_; intro g9 cap9 w9 hown9 hgrow9 hat9 hlt9)
  go_ret
  exact ⟨_, rfl, Rn.app (zs := [963]) (unhide HN) rfl hown9, ((Gr.one w _).below.mono hB).trans (below_own hgrow9 (by simp; omega) (own_block (Rn.own (unhide HN) (unhide HO))))⟩
set_option maxHeartbeats 1600000 in
theorem putn_1025 (B : Nat) (v : Value) (T : List Int) (w : World) (hB : B ≤ w.heap.size) (h : Rn B v T w) (hT : T.length ≤ 100000) : Calls Tryd.prog 23 #[v, .int .i32 1025] w fun e w' => ∃ v', e = .returned v' ∧ Rn B v' (T ++ [1105]) w' ∧ Below B w w' := by
  obtain ⟨i0, hi, hz0, hz1, hz2⟩ := info_parts elem_info
  obtain ⟨xa, xc, hv⟩ := h.shape
  obtain ⟨N, hN⟩ : ∃ N, N = T.length := ⟨_, rfl⟩
  rw [← hN] at hv hT
  have HN := hide hN
  clear hN
  subst hv
  have HO := hide h
  clear h
  have hm1 : N + 1 ≤ maxLen := by unfold maxLen; omega
  have hm2 : (N + 1) * 4 ≤ 140737488355328 := by omega
  go_enter Tryd.func23, Tryd.ntmps23
  go_wp2_with (at_builtin; refine wpList_append_lies _ rfl _ _ 23 rfl B 21 i0 _ 1 4 Tryd.underlying23 hi hz0 hz1 hz2 rfl (by omega) _ N _ rfl (World.ownsRow.alloc (Rn.own (unhide HN) (unhide HO)) _) ⟨w.heap.size, 0, none⟩ 1 1 [.int .i32 1105] rfl rfl (World.news_of_block (cs := #[.int .i32 1105]) (t := 21) (fr := (0, 0)) (heap_new w _)) (by simp [Value.oneCell']) (by omega) hm1 hm2 (by simp; omega) (w.heap.size + 1) (by simp) ?_; intro g9 cap9 w9 hown9 hgrow9 hat9 hlt9)
  go_ret
  exact ⟨_, rfl, Rn.app (zs := [1105]) (unhide HN) rfl hown9, ((Gr.one w _).below.mono hB).trans (below_own hgrow9 (by simp; omega) (own_block (Rn.own (unhide HN) (unhide HO))))⟩
set_option maxHeartbeats 1600000 in
theorem putn_8486 (B : Nat) (v : Value) (T : List Int) (w : World) (hB : B ≤ w.heap.size) (h : Rn B v T w) (hT : T.length ≤ 100000) : Calls Tryd.prog 23 #[v, .int .i32 8486] w fun e w' => ∃ v', e = .returned v' ∧ Rn B v' (T ++ [969]) w' ∧ Below B w w' := by
  obtain ⟨i0, hi, hz0, hz1, hz2⟩ := info_parts elem_info
  obtain ⟨xa, xc, hv⟩ := h.shape
  obtain ⟨N, hN⟩ : ∃ N, N = T.length := ⟨_, rfl⟩
  rw [← hN] at hv hT
  have HN := hide hN
  clear hN
  subst hv
  have HO := hide h
  clear h
  have hm1 : N + 1 ≤ maxLen := by unfold maxLen; omega
  have hm2 : (N + 1) * 4 ≤ 140737488355328 := by omega
  go_enter Tryd.func23, Tryd.ntmps23
  go_wp2_with (at_builtin; refine wpList_append_lies _ rfl _ _ 23 rfl B 21 i0 _ 1 4 Tryd.underlying23 hi hz0 hz1 hz2 rfl (by omega) _ N _ rfl (World.ownsRow.alloc (Rn.own (unhide HN) (unhide HO)) _) ⟨w.heap.size, 0, none⟩ 1 1 [.int .i32 969] rfl rfl (World.news_of_block (cs := #[.int .i32 969]) (t := 21) (fr := (0, 0)) (heap_new w _)) (by simp [Value.oneCell']) (by omega) hm1 hm2 (by simp; omega) (w.heap.size + 1) (by simp) ?_; intro g9 cap9 w9 hown9 hgrow9 hat9 hlt9)
  go_ret
  exact ⟨_, rfl, Rn.app (zs := [969]) (unhide HN) rfl hown9, ((Gr.one w _).below.mono hB).trans (below_own hgrow9 (by simp; omega) (own_block (Rn.own (unhide HN) (unhide HO))))⟩
set_option maxHeartbeats 1600000 in
theorem putn_8490 (B : Nat) (v : Value) (T : List Int) (w : World) (hB : B ≤ w.heap.size) (h : Rn B v T w) (hT : T.length ≤ 100000) : Calls Tryd.prog 23 #[v, .int .i32 8490] w fun e w' => ∃ v', e = .returned v' ∧ Rn B v' (T ++ [107]) w' ∧ Below B w w' := by
  obtain ⟨i0, hi, hz0, hz1, hz2⟩ := info_parts elem_info
  obtain ⟨xa, xc, hv⟩ := h.shape
  obtain ⟨N, hN⟩ : ∃ N, N = T.length := ⟨_, rfl⟩
  rw [← hN] at hv hT
  have HN := hide hN
  clear hN
  subst hv
  have HO := hide h
  clear h
  have hm1 : N + 1 ≤ maxLen := by unfold maxLen; omega
  have hm2 : (N + 1) * 4 ≤ 140737488355328 := by omega
  go_enter Tryd.func23, Tryd.ntmps23
  go_wp2_with (at_builtin; refine wpList_append_lies _ rfl _ _ 23 rfl B 21 i0 _ 1 4 Tryd.underlying23 hi hz0 hz1 hz2 rfl (by omega) _ N _ rfl (World.ownsRow.alloc (Rn.own (unhide HN) (unhide HO)) _) ⟨w.heap.size, 0, none⟩ 1 1 [.int .i32 107] rfl rfl (World.news_of_block (cs := #[.int .i32 107]) (t := 21) (fr := (0, 0)) (heap_new w _)) (by simp [Value.oneCell']) (by omega) hm1 hm2 (by simp; omega) (w.heap.size + 1) (by simp) ?_; intro g9 cap9 w9 hown9 hgrow9 hat9 hlt9)
  go_ret
  exact ⟨_, rfl, Rn.app (zs := [107]) (unhide HN) rfl hown9, ((Gr.one w _).below.mono hB).trans (below_own hgrow9 (by simp; omega) (own_block (Rn.own (unhide HN) (unhide HO))))⟩
set_option maxHeartbeats 1600000 in
theorem putn_8491 (B : Nat) (v : Value) (T : List Int) (w : World) (hB : B ≤ w.heap.size) (h : Rn B v T w) (hT : T.length ≤ 100000) : Calls Tryd.prog 23 #[v, .int .i32 8491] w fun e w' => ∃ v', e = .returned v' ∧ Rn B v' (T ++ [229]) w' ∧ Below B w w' := by
  obtain ⟨i0, hi, hz0, hz1, hz2⟩ := info_parts elem_info
  obtain ⟨xa, xc, hv⟩ := h.shape
  obtain ⟨N, hN⟩ : ∃ N, N = T.length := ⟨_, rfl⟩
  rw [← hN] at hv hT
  have HN := hide hN
  clear hN
  subst hv
  have HO := hide h
  clear h
  have hm1 : N + 1 ≤ maxLen := by unfold maxLen; omega
  have hm2 : (N + 1) * 4 ≤ 140737488355328 := by omega
  go_enter Tryd.func23, Tryd.ntmps23
  go_wp2_with (at_builtin; refine wpList_append_lies _ rfl _ _ 23 rfl B 21 i0 _ 1 4 Tryd.underlying23 hi hz0 hz1 hz2 rfl (by omega) _ N _ rfl (World.ownsRow.alloc (Rn.own (unhide HN) (unhide HO)) _) ⟨w.heap.size, 0, none⟩ 1 1 [.int .i32 229] rfl rfl (World.news_of_block (cs := #[.int .i32 229]) (t := 21) (fr := (0, 0)) (heap_new w _)) (by simp [Value.oneCell']) (by omega) hm1 hm2 (by simp; omega) (w.heap.size + 1) (by simp) ?_; intro g9 cap9 w9 hown9 hgrow9 hat9 hlt9)
  go_ret
  exact ⟨_, rfl, Rn.app (zs := [229]) (unhide HN) rfl hown9, ((Gr.one w _).below.mono hB).trans (below_own hgrow9 (by simp; omega) (own_block (Rn.own (unhide HN) (unhide HO))))⟩
set_option maxHeartbeats 1600000 in
theorem putn_64256 (B : Nat) (v : Value) (T : List Int) (w : World) (hB : B ≤ w.heap.size) (h : Rn B v T w) (hT : T.length ≤ 100000) : Calls Tryd.prog 23 #[v, .int .i32 64256] w fun e w' => ∃ v', e = .returned v' ∧ Rn B v' (T ++ [102, 102]) w' ∧ Below B w w' := by
  obtain ⟨i0, hi, hz0, hz1, hz2⟩ := info_parts elem_info
  obtain ⟨xa, xc, hv⟩ := h.shape
  obtain ⟨N, hN⟩ : ∃ N, N = T.length := ⟨_, rfl⟩
  rw [← hN] at hv hT
  have HN := hide hN
  clear hN
  subst hv
  have HO := hide h
  clear h
  have hm1 : N + 2 ≤ maxLen := by unfold maxLen; omega
  have hm2 : (N + 2) * 4 ≤ 140737488355328 := by omega
  go_enter Tryd.func23, Tryd.ntmps23
  go_wp2_with (at_builtin; refine wpList_append_lies _ rfl _ _ 23 rfl B 21 i0 _ 1 4 Tryd.underlying23 hi hz0 hz1 hz2 rfl (by omega) _ N _ rfl (World.ownsRow.alloc (Rn.own (unhide HN) (unhide HO)) _) ⟨w.heap.size, 0, none⟩ 2 2 [.int .i32 102, .int .i32 102] rfl rfl (World.news_of_block (cs := #[.int .i32 102, .int .i32 102]) (t := 21) (fr := (0, 0)) (heap_new w _)) (by simp [Value.oneCell']) (by omega) hm1 hm2 (by simp; omega) (w.heap.size + 1) (by simp) ?_; intro g9 cap9 w9 hown9 hgrow9 hat9 hlt9)
  go_ret
  exact ⟨_, rfl, Rn.app (zs := [102, 102]) (unhide HN) rfl hown9, ((Gr.one w _).below.mono hB).trans (below_own hgrow9 (by simp; omega) (own_block (Rn.own (unhide HN) (unhide HO))))⟩
set_option maxHeartbeats 1600000 in
theorem putn_64257 (B : Nat) (v : Value) (T : List Int) (w : World) (hB : B ≤ w.heap.size) (h : Rn B v T w) (hT : T.length ≤ 100000) : Calls Tryd.prog 23 #[v, .int .i32 64257] w fun e w' => ∃ v', e = .returned v' ∧ Rn B v' (T ++ [102, 105]) w' ∧ Below B w w' := by
  obtain ⟨i0, hi, hz0, hz1, hz2⟩ := info_parts elem_info
  obtain ⟨xa, xc, hv⟩ := h.shape
  obtain ⟨N, hN⟩ : ∃ N, N = T.length := ⟨_, rfl⟩
  rw [← hN] at hv hT
  have HN := hide hN
  clear hN
  subst hv
  have HO := hide h
  clear h
  have hm1 : N + 2 ≤ maxLen := by unfold maxLen; omega
  have hm2 : (N + 2) * 4 ≤ 140737488355328 := by omega
  go_enter Tryd.func23, Tryd.ntmps23
  go_wp2_with (at_builtin; refine wpList_append_lies _ rfl _ _ 23 rfl B 21 i0 _ 1 4 Tryd.underlying23 hi hz0 hz1 hz2 rfl (by omega) _ N _ rfl (World.ownsRow.alloc (Rn.own (unhide HN) (unhide HO)) _) ⟨w.heap.size, 0, none⟩ 2 2 [.int .i32 102, .int .i32 105] rfl rfl (World.news_of_block (cs := #[.int .i32 102, .int .i32 105]) (t := 21) (fr := (0, 0)) (heap_new w _)) (by simp [Value.oneCell']) (by omega) hm1 hm2 (by simp; omega) (w.heap.size + 1) (by simp) ?_; intro g9 cap9 w9 hown9 hgrow9 hat9 hlt9)
  go_ret
  exact ⟨_, rfl, Rn.app (zs := [102, 105]) (unhide HN) rfl hown9, ((Gr.one w _).below.mono hB).trans (below_own hgrow9 (by simp; omega) (own_block (Rn.own (unhide HN) (unhide HO))))⟩
set_option maxHeartbeats 1600000 in
theorem putn_64258 (B : Nat) (v : Value) (T : List Int) (w : World) (hB : B ≤ w.heap.size) (h : Rn B v T w) (hT : T.length ≤ 100000) : Calls Tryd.prog 23 #[v, .int .i32 64258] w fun e w' => ∃ v', e = .returned v' ∧ Rn B v' (T ++ [102, 108]) w' ∧ Below B w w' := by
  obtain ⟨i0, hi, hz0, hz1, hz2⟩ := info_parts elem_info
  obtain ⟨xa, xc, hv⟩ := h.shape
  obtain ⟨N, hN⟩ : ∃ N, N = T.length := ⟨_, rfl⟩
  rw [← hN] at hv hT
  have HN := hide hN
  clear hN
  subst hv
  have HO := hide h
  clear h
  have hm1 : N + 2 ≤ maxLen := by unfold maxLen; omega
  have hm2 : (N + 2) * 4 ≤ 140737488355328 := by omega
  go_enter Tryd.func23, Tryd.ntmps23
  go_wp2_with (at_builtin; refine wpList_append_lies _ rfl _ _ 23 rfl B 21 i0 _ 1 4 Tryd.underlying23 hi hz0 hz1 hz2 rfl (by omega) _ N _ rfl (World.ownsRow.alloc (Rn.own (unhide HN) (unhide HO)) _) ⟨w.heap.size, 0, none⟩ 2 2 [.int .i32 102, .int .i32 108] rfl rfl (World.news_of_block (cs := #[.int .i32 102, .int .i32 108]) (t := 21) (fr := (0, 0)) (heap_new w _)) (by simp [Value.oneCell']) (by omega) hm1 hm2 (by simp; omega) (w.heap.size + 1) (by simp) ?_; intro g9 cap9 w9 hown9 hgrow9 hat9 hlt9)
  go_ret
  exact ⟨_, rfl, Rn.app (zs := [102, 108]) (unhide HN) rfl hown9, ((Gr.one w _).below.mono hB).trans (below_own hgrow9 (by simp; omega) (own_block (Rn.own (unhide HN) (unhide HO))))⟩
set_option maxHeartbeats 1600000 in
theorem putn_64259 (B : Nat) (v : Value) (T : List Int) (w : World) (hB : B ≤ w.heap.size) (h : Rn B v T w) (hT : T.length ≤ 100000) : Calls Tryd.prog 23 #[v, .int .i32 64259] w fun e w' => ∃ v', e = .returned v' ∧ Rn B v' (T ++ [102, 102, 105]) w' ∧ Below B w w' := by
  obtain ⟨i0, hi, hz0, hz1, hz2⟩ := info_parts elem_info
  obtain ⟨xa, xc, hv⟩ := h.shape
  obtain ⟨N, hN⟩ : ∃ N, N = T.length := ⟨_, rfl⟩
  rw [← hN] at hv hT
  have HN := hide hN
  clear hN
  subst hv
  have HO := hide h
  clear h
  have hm1 : N + 3 ≤ maxLen := by unfold maxLen; omega
  have hm2 : (N + 3) * 4 ≤ 140737488355328 := by omega
  go_enter Tryd.func23, Tryd.ntmps23
  go_wp2_with (at_builtin; refine wpList_append_lies _ rfl _ _ 23 rfl B 21 i0 _ 1 4 Tryd.underlying23 hi hz0 hz1 hz2 rfl (by omega) _ N _ rfl (World.ownsRow.alloc (Rn.own (unhide HN) (unhide HO)) _) ⟨w.heap.size, 0, none⟩ 3 3 [.int .i32 102, .int .i32 102, .int .i32 105] rfl rfl (World.news_of_block (cs := #[.int .i32 102, .int .i32 102, .int .i32 105]) (t := 21) (fr := (0, 0)) (heap_new w _)) (by simp [Value.oneCell']) (by omega) hm1 hm2 (by simp; omega) (w.heap.size + 1) (by simp) ?_; intro g9 cap9 w9 hown9 hgrow9 hat9 hlt9)
  go_ret
  exact ⟨_, rfl, Rn.app (zs := [102, 102, 105]) (unhide HN) rfl hown9, ((Gr.one w _).below.mono hB).trans (below_own hgrow9 (by simp; omega) (own_block (Rn.own (unhide HN) (unhide HO))))⟩
set_option maxHeartbeats 1600000 in
theorem putn_64260 (B : Nat) (v : Value) (T : List Int) (w : World) (hB : B ≤ w.heap.size) (h : Rn B v T w) (hT : T.length ≤ 100000) : Calls Tryd.prog 23 #[v, .int .i32 64260] w fun e w' => ∃ v', e = .returned v' ∧ Rn B v' (T ++ [102, 102, 108]) w' ∧ Below B w w' := by
  obtain ⟨i0, hi, hz0, hz1, hz2⟩ := info_parts elem_info
  obtain ⟨xa, xc, hv⟩ := h.shape
  obtain ⟨N, hN⟩ : ∃ N, N = T.length := ⟨_, rfl⟩
  rw [← hN] at hv hT
  have HN := hide hN
  clear hN
  subst hv
  have HO := hide h
  clear h
  have hm1 : N + 3 ≤ maxLen := by unfold maxLen; omega
  have hm2 : (N + 3) * 4 ≤ 140737488355328 := by omega
  go_enter Tryd.func23, Tryd.ntmps23
  go_wp2_with (at_builtin; refine wpList_append_lies _ rfl _ _ 23 rfl B 21 i0 _ 1 4 Tryd.underlying23 hi hz0 hz1 hz2 rfl (by omega) _ N _ rfl (World.ownsRow.alloc (Rn.own (unhide HN) (unhide HO)) _) ⟨w.heap.size, 0, none⟩ 3 3 [.int .i32 102, .int .i32 102, .int .i32 108] rfl rfl (World.news_of_block (cs := #[.int .i32 102, .int .i32 102, .int .i32 108]) (t := 21) (fr := (0, 0)) (heap_new w _)) (by simp [Value.oneCell']) (by omega) hm1 hm2 (by simp; omega) (w.heap.size + 1) (by simp) ?_; intro g9 cap9 w9 hown9 hgrow9 hat9 hlt9)
  go_ret
  exact ⟨_, rfl, Rn.app (zs := [102, 102, 108]) (unhide HN) rfl hown9, ((Gr.one w _).below.mono hB).trans (below_own hgrow9 (by simp; omega) (own_block (Rn.own (unhide HN) (unhide HO))))⟩
set_option maxHeartbeats 1600000 in
theorem putn_64261 (B : Nat) (v : Value) (T : List Int) (w : World) (hB : B ≤ w.heap.size) (h : Rn B v T w) (hT : T.length ≤ 100000) : Calls Tryd.prog 23 #[v, .int .i32 64261] w fun e w' => ∃ v', e = .returned v' ∧ Rn B v' (T ++ [115, 116]) w' ∧ Below B w w' := by
  obtain ⟨i0, hi, hz0, hz1, hz2⟩ := info_parts elem_info
  obtain ⟨xa, xc, hv⟩ := h.shape
  obtain ⟨N, hN⟩ : ∃ N, N = T.length := ⟨_, rfl⟩
  rw [← hN] at hv hT
  have HN := hide hN
  clear hN
  subst hv
  have HO := hide h
  clear h
  have hm1 : N + 2 ≤ maxLen := by unfold maxLen; omega
  have hm2 : (N + 2) * 4 ≤ 140737488355328 := by omega
  go_enter Tryd.func23, Tryd.ntmps23
  go_wp2_with (at_builtin; refine wpList_append_lies _ rfl _ _ 23 rfl B 21 i0 _ 1 4 Tryd.underlying23 hi hz0 hz1 hz2 rfl (by omega) _ N _ rfl (World.ownsRow.alloc (Rn.own (unhide HN) (unhide HO)) _) ⟨w.heap.size, 0, none⟩ 2 2 [.int .i32 115, .int .i32 116] rfl rfl (World.news_of_block (cs := #[.int .i32 115, .int .i32 116]) (t := 21) (fr := (0, 0)) (heap_new w _)) (by simp [Value.oneCell']) (by omega) hm1 hm2 (by simp; omega) (w.heap.size + 1) (by simp) ?_; intro g9 cap9 w9 hown9 hgrow9 hat9 hlt9)
  go_ret
  exact ⟨_, rfl, Rn.app (zs := [115, 116]) (unhide HN) rfl hown9, ((Gr.one w _).below.mono hB).trans (below_own hgrow9 (by simp; omega) (own_block (Rn.own (unhide HN) (unhide HO))))⟩
set_option maxHeartbeats 1600000 in
theorem putn_else (r : Int) (B : Nat) (v : Value) (T : List Int) (w : World) (hB : B ≤ w.heap.size) (h : Rn B v T w) (hT : T.length ≤ 100000) (hn : r ∉ nms9.map (·.1)) : Calls Tryd.prog 23 #[v, .int .i32 r] w fun e w' => ∃ v', e = .returned v' ∧ Rn B v' (T ++ [r]) w' ∧ Below B w w' := by
  obtain ⟨i0, hi, hz0, hz1, hz2⟩ := info_parts elem_info
  obtain ⟨xa, xc, hv⟩ := h.shape
  obtain ⟨N, hN⟩ : ∃ N, N = T.length := ⟨_, rfl⟩
  rw [← hN] at hv hT
  have HN := hide hN
  clear hN
  subst hv
  have HO := hide h
  clear h
  have hm1 : N + 1 ≤ maxLen := by unfold maxLen; omega
  have hm2 : (N + 1) * 4 ≤ 140737488355328 := by omega
  have m181 : (r == 181) = false := by simpa using fun e : r = 181 => hn (by rw [e]; decide)
  have m223 : (r == 223) = false := by simpa using fun e : r = 223 => hn (by rw [e]; decide)
  have m304 : (r == 304) = false := by simpa using fun e : r = 304 => hn (by rw [e]; decide)
  have m329 : (r == 329) = false := by simpa using fun e : r = 329 => hn (by rw [e]; decide)
  have m376 : (r == 376) = false := by simpa using fun e : r = 376 => hn (by rw [e]; decide)
  have m383 : (r == 383) = false := by simpa using fun e : r = 383 => hn (by rw [e]; decide)
  have m902 : (r == 902) = false := by simpa using fun e : r = 902 => hn (by rw [e]; decide)
  have m908 : (r == 908) = false := by simpa using fun e : r = 908 => hn (by rw [e]; decide)
  have m910 : (r == 910) = false := by simpa using fun e : r = 910 => hn (by rw [e]; decide)
  have m911 : (r == 911) = false := by simpa using fun e : r = 911 => hn (by rw [e]; decide)
  have m962 : (r == 962) = false := by simpa using fun e : r = 962 => hn (by rw [e]; decide)
  have m1025 : (r == 1025) = false := by simpa using fun e : r = 1025 => hn (by rw [e]; decide)
  have m8486 : (r == 8486) = false := by simpa using fun e : r = 8486 => hn (by rw [e]; decide)
  have m8490 : (r == 8490) = false := by simpa using fun e : r = 8490 => hn (by rw [e]; decide)
  have m8491 : (r == 8491) = false := by simpa using fun e : r = 8491 => hn (by rw [e]; decide)
  have m64256 : (r == 64256) = false := by simpa using fun e : r = 64256 => hn (by rw [e]; decide)
  have m64257 : (r == 64257) = false := by simpa using fun e : r = 64257 => hn (by rw [e]; decide)
  have m64258 : (r == 64258) = false := by simpa using fun e : r = 64258 => hn (by rw [e]; decide)
  have m64259 : (r == 64259) = false := by simpa using fun e : r = 64259 => hn (by rw [e]; decide)
  have m64260 : (r == 64260) = false := by simpa using fun e : r = 64260 => hn (by rw [e]; decide)
  have m64261 : (r == 64261) = false := by simpa using fun e : r = 64261 => hn (by rw [e]; decide)
  clear hn
  go_enter Tryd.func23, Tryd.ntmps23
  go_wp2_with (at_builtin; refine wpList_append_lies _ rfl _ _ 23 rfl B 21 i0 _ 1 4 Tryd.underlying23 hi hz0 hz1 hz2 rfl (by omega) _ N _ rfl (World.ownsRow.alloc (Rn.own (unhide HN) (unhide HO)) _) ⟨w.heap.size, 0, none⟩ 1 1 [.int .i32 r] rfl rfl (World.news_of_block (cs := #[.int .i32 r]) (t := 21) (fr := (0, 0)) (heap_new w _)) (by simp [Value.oneCell']) (by omega) hm1 hm2 (by simp; omega) (w.heap.size + 1) (by simp) ?_; intro g9 cap9 w9 hown9 hgrow9 hat9 hlt9)
  go_ret
  exact ⟨_, rfl, Rn.app (zs := [r]) (unhide HN) rfl hown9, ((Gr.one w _).below.mono hB).trans (below_own hgrow9 (by simp; omega) (own_block (Rn.own (unhide HN) (unhide HO))))⟩
/-- putNamed, of any number. -/
theorem putn_any (r : Int) (B : Nat) (v : Value) (T : List Int) (w : World) (hB : B ≤ w.heap.size) (h : Rn B v T w) (hT : T.length ≤ 100000) : Calls Tryd.prog 23 #[v, .int .i32 r] w fun e w' => ∃ v', e = .returned v' ∧ Rn B v' (T ++ namL r nms9) w' ∧ Below B w w' := by
  by_cases hn : r ∈ nms9.map (·.1)
  · simp only [nms9, List.map_cons, List.map_nil, List.mem_cons, List.not_mem_nil, or_false] at hn
    rcases hn with rfl | rfl | rfl | rfl | rfl | rfl | rfl | rfl | rfl | rfl | rfl | rfl | rfl | rfl | rfl | rfl | rfl | rfl | rfl | rfl | rfl
    · exact putn_181 B v T w hB h hT
    · exact putn_223 B v T w hB h hT
    · exact putn_304 B v T w hB h hT
    · exact putn_329 B v T w hB h hT
    · exact putn_376 B v T w hB h hT
    · exact putn_383 B v T w hB h hT
    · exact putn_902 B v T w hB h hT
    · exact putn_908 B v T w hB h hT
    · exact putn_910 B v T w hB h hT
    · exact putn_911 B v T w hB h hT
    · exact putn_962 B v T w hB h hT
    · exact putn_1025 B v T w hB h hT
    · exact putn_8486 B v T w hB h hT
    · exact putn_8490 B v T w hB h hT
    · exact putn_8491 B v T w hB h hT
    · exact putn_64256 B v T w hB h hT
    · exact putn_64257 B v T w hB h hT
    · exact putn_64258 B v T w hB h hT
    · exact putn_64259 B v T w hB h hT
    · exact putn_64260 B v T w hB h hT
    · exact putn_64261 B v T w hB h hT
  · rw [namL_self r nms9 hn]
    exact putn_else r B v T w hB h hT hn
end Go.Proofs.YtbffmopenjjjlaaDoor
