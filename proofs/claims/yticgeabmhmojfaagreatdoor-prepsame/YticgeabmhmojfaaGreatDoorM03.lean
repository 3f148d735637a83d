/- Contracts of the small functions: Syllable, Part, first, Join, and the document's. -/
import Derived.Test.YticgeabmhmojfaaGreatDoorM02
import Derived.KernelRfl
namespace Go.Proofs.YticgeabmhmojfaaGreatDoor
set_option maxRecDepth 100000
open Go.RowKit

set_option maxHeartbeats 400000 in
theorem syl_any (r : Int) (w : World) :
    Calls Tryz.prog 57 #[.int .i32 r] w fun e w' => e = .returned (.bool (isSyl r)) ∧ w' = w := by
  unfold isSyl
  by_cases h1 : 44032 ≤ r
  · by_cases h2 : r ≤ 55203
    · go_enter Tryz.func57, Tryz.ntmps57
      go_wp2
      go_ret
      exact ⟨ret_bool (by simp; omega), rfl⟩
    · go_enter Tryz.func57, Tryz.ntmps57
      go_wp2
      go_ret
      exact ⟨ret_bool (by simp; omega), rfl⟩
  · go_enter Tryz.func57, Tryz.ntmps57
    go_wp2
    go_ret
    exact ⟨ret_bool (by simp; omega), rfl⟩


set_option maxHeartbeats 400000 in
theorem first_1 (w : World) (h : Lay w) : Calls Tryz.prog 73 #[.int .i64 1] w fun e w' => e = .returned (.int .i32 4352) ∧ w' = w := by
  obtain ⟨c0, c1, c2, c3, c4, c5⟩ := h
  go_enter Tryz.func73, Tryz.ntmps73
  go_wp2
  go_ret
  exact ⟨rfl, rfl⟩
set_option maxHeartbeats 400000 in
theorem first_2 (w : World) (h : Lay w) : Calls Tryz.prog 73 #[.int .i64 2] w fun e w' => e = .returned (.int .i32 4449) ∧ w' = w := by
  obtain ⟨c0, c1, c2, c3, c4, c5⟩ := h
  go_enter Tryz.func73, Tryz.ntmps73
  go_wp2
  go_ret
  exact ⟨rfl, rfl⟩
set_option maxHeartbeats 400000 in
theorem first_3 (w : World) (h : Lay w) : Calls Tryz.prog 73 #[.int .i64 3] w fun e w' => e = .returned (.int .i32 4520) ∧ w' = w := by
  obtain ⟨c0, c1, c2, c3, c4, c5⟩ := h
  go_enter Tryz.func73, Tryz.ntmps73
  go_wp2
  go_ret
  exact ⟨rfl, rfl⟩
end Go.Proofs.YticgeabmhmojfaaGreatDoor
/- What characters are folded to, plainly. -/
namespace Go.Proofs.YticgeabmhmojfaaGreatDoor
set_option maxRecDepth 100000

/-- A row: from, to, step, how far above. -/
structure Fo where
  f : Int
  t : Int
  s : Int
  u : Int
def fo0 : Fo := ⟨0, 0, 1, 0⟩
def rows9 : List Fo := [
  ⟨65, 90, 1, 32⟩, ⟨192, 214, 1, 32⟩, ⟨216, 222, 1, 32⟩, ⟨256, 302, 2, 1⟩, ⟨306, 310, 2, 1⟩, ⟨313, 327, 2, 1⟩,
  ⟨330, 374, 2, 1⟩, ⟨376, 376, 1, -121⟩, ⟨377, 381, 2, 1⟩, ⟨902, 902, 1, 38⟩, ⟨904, 906, 1, 37⟩, ⟨908, 908, 1, 64⟩,
  ⟨910, 911, 1, 63⟩, ⟨913, 929, 1, 32⟩, ⟨931, 939, 1, 32⟩, ⟨962, 962, 1, 1⟩, ⟨1025, 1025, 1, 80⟩, ⟨1040, 1071, 1, 32⟩,
  ⟨181, 181, 1, 775⟩, ⟨383, 383, 1, -268⟩, ⟨8486, 8486, 1, -7517⟩, ⟨8490, 8490, 1, -8383⟩, ⟨8491, 8491, 1, -8262⟩, ⟨8544, 8555, 1, 16⟩,
  ⟨65313, 65338, 1, 32⟩]
def spec9 (r : Int) : Option (List Int) :=
  if r = 223 then some [115, 115]
  else if r = 304 then some [105, 775]
  else if r = 329 then some [700, 110]
  else if r = 64256 then some [102, 102]
  else if r = 64257 then some [102, 105]
  else if r = 64258 then some [102, 108]
  else if r = 64259 then some [102, 102, 105]
  else if r = 64260 then some [102, 102, 108]
  else if r = 64261 then some [115, 116]
  else none
def inF (o : Fo) (r : Int) : Bool := decide (o.f ≤ r ∧ r ≤ o.t ∧ (r - o.f) % o.s = 0)
def rowF (r : Int) : List Fo → List Int
  | [] => [r]
  | o :: m => if inF o r then [r + o.u] else rowF r m
/-- What r is folded to. -/
def foldL (r : Int) : List Int :=
  if 0 ≤ r ∧ r < 128 then (if 65 ≤ r ∧ r ≤ 90 then [r + 32] else [r])
  else match spec9 r with
    | some l => l
    | none => rowF r rows9
/-- Is it folded to itself alone? -/
def selfF (r : Int) : Bool := decide (foldL r = [r])
def foldedB (l : List Int) : Bool := l.all selfF
theorem rowF_step (r : Int) (n : Nat) (h : n < 25) : rowF r (rows9.drop n) = if inF (rows9.getD n fo0) r then [r + (rows9.getD n fo0).u] else rowF r (rows9.drop (n + 1)) := by
  have e : rows9.drop n = rows9.getD n fo0 :: rows9.drop (n + 1) := by
    have hl : n < rows9.length := h
    rw [List.drop_eq_getElem_cons hl]; simp [List.getD, hl]
  rw [e]; rfl
/-- What each row has: it rises, its step is one or two, what it tells fits. -/
def okF (o : Fo) : Bool := decide (0 ≤ o.f ∧ o.f ≤ o.t ∧ o.t ≤ 70000 ∧ 1 ≤ o.s ∧ o.s ≤ 2 ∧ -10000 ≤ o.u ∧ o.u ≤ 1000 ∧ 0 ≤ o.f + o.u)
theorem rows9_ok : rows9.all okF = true := by kernel_rfl
theorem row9_ok (n : Nat) (h : n < 25) : okF (rows9.getD n fo0) = true := by
  have hl : n < rows9.length := h
  exact List.all_eq_true.1 rows9_ok _ (by simp [List.getD, hl])
theorem rowF_len (r : Int) : ∀ l : List Fo, (rowF r l).length = 1
  | [] => rfl
  | o :: m => by
    unfold rowF
    cases inF o r
    · exact rowF_len r m
    · rfl
theorem spec9_len {r : Int} {l : List Int} (h : spec9 r = some l) : 1 ≤ l.length ∧ l.length ≤ 3 := by
  unfold spec9 at h
  repeat' split at h
  all_goals (cases h <;> simp)
theorem fold_len (r : Int) : 1 ≤ (foldL r).length ∧ (foldL r).length ≤ 3 := by
  unfold foldL
  split
  · split <;> simp
  · split
    · rename_i l h; exact spec9_len h
    · rw [rowF_len]; omega
end Go.Proofs.YticgeabmhmojfaaGreatDoor
/- Those that the program names by themselves, plainly. -/
namespace Go.Proofs.YticgeabmhmojfaaGreatDoor
set_option maxRecDepth 100000

/-- Those that are named by themselves. -/
def nms9 : List (Int × List Int) := [(181, [956]), (223, [115, 115]), (304, [105, 775]), (329, [700, 110]), (376, [255]), (383, [115]), (902, [940]), (908, [972]), (910, [973]), (911, [974]), (962, [963]), (1025, [1105]),
  (8486, [969]), (8490, [107]), (8491, [229]), (64256, [102, 102]), (64257, [102, 105]), (64258, [102, 108]), (64259, [102, 102, 105]), (64260, [102, 102, 108]), (64261, [115, 116])]
def namL (r : Int) : List (Int × List Int) → List Int
  | [] => [r]
  | p :: m => if r = p.1 then p.2 else namL r m
theorem namL_self (r : Int) : ∀ l : List (Int × List Int), (r ∉ l.map (·.1)) → namL r l = [r]
  | [], _ => rfl
  | p :: m, h => by
    simp only [List.map_cons, List.mem_cons, not_or] at h
    unfold namL
    rw [if_neg h.1]
    exact namL_self r m h.2
end Go.Proofs.YticgeabmhmojfaaGreatDoor
/- The program's own table, plainly. -/
namespace Go.Proofs.YticgeabmhmojfaaGreatDoor
set_option maxRecDepth 100000

def sts9 : List Fo := [
  ⟨65, 90, 1, 32⟩, ⟨192, 214, 1, 32⟩, ⟨216, 222, 1, 32⟩, ⟨256, 302, 2, 1⟩, ⟨306, 310, 2, 1⟩, ⟨313, 327, 2, 1⟩, ⟨330, 374, 2, 1⟩, ⟨377, 381, 2, 1⟩,
  ⟨904, 906, 1, 37⟩, ⟨913, 929, 1, 32⟩, ⟨931, 939, 1, 32⟩, ⟨1040, 1071, 1, 32⟩, ⟨8544, 8555, 1, 16⟩, ⟨65313, 65338, 1, 32⟩]
/-- What the program puts. -/
def stL (r : Int) : List Fo → List Int
  | [] => namL r nms9
  | o :: m => if inF o r then [r + o.u] else stL r m
theorem stL_step (r : Int) (n : Nat) (h : n < 14) : stL r (sts9.drop n) = if inF (sts9.getD n fo0) r then [r + (sts9.getD n fo0).u] else stL r (sts9.drop (n + 1)) := by
  have e : sts9.drop n = sts9.getD n fo0 :: sts9.drop (n + 1) := by
    have hl : n < sts9.length := h
    rw [List.drop_eq_getElem_cons hl]; simp [List.getD, hl]
  rw [e]; rfl
theorem sts9_ok : sts9.all okF = true := by kernel_rfl
theorem st9_ok (n : Nat) (h : n < 14) : okF (sts9.getD n fo0) = true := by
  have hl : n < sts9.length := h
  exact List.all_eq_true.1 sts9_ok _ (by simp [List.getD, hl])
end Go.Proofs.YticgeabmhmojfaaGreatDoor
/- The landed putNamed: what is named by itself is put behind a row of the call's own. -/
namespace Go.Proofs.YticgeabmhmojfaaGreatDoor
set_option maxRecDepth 100000
open Go.RowKit

/-- What an append leaves. -/
theorem Rn.app {w1 : World} {B g1 cap1 N m : Nat} {es zs : List Int} (hN : N = es.length) (hm : m = zs.length) (h : w1.ownsRow B 21 1 (.slice (.some ⟨g1, 0, none⟩) (N + m) cap1) (N + m) (es.map (Value.int .i32) ++ zs.map (Value.int .i32))) : Rn B (.slice (.some ⟨g1, 0, none⟩) (N + m) cap1) (es ++ zs) w1 := by
  subst hN hm
  unfold Rn
  rw [List.length_append, List.map_append]
  exact h
set_option maxHeartbeats 1600000 in
theorem putn_181 (B : Nat) (v : Value) (T : List Int) (w : World) (hB : B ≤ w.heap.size) (h : Rn B v T w) (hT : T.length ≤ 100000) : Calls Tryz.prog 41 #[v, .int .i32 181] w fun e w' => ∃ v', e = .returned v' ∧ Rn B v' (T ++ [956]) w' ∧ Below B w w' := by
  obtain ⟨i0, hi, hz0, hz1, hz2⟩ := info_parts elem_info
  obtain ⟨xa, xc, hv⟩ := h.shape
  obtain ⟨N, hN⟩ : ∃ N, N = T.length := ⟨_, rfl⟩
  rw [← hN] at hv hT
  have HN := hide hN
  clear hN
  subst hv
  have HO := hide h
  clear h
  have hm1 : N + 1 ≤ maxLen := by unfold maxLen; omega
  have hm2 : (N + 1) * 4 ≤ 140737488355328 := by omega
  go_enter Tryz.func41, Tryz.ntmps41
  go_wp2_with (at_builtin; refine wpList_append_lies _ rfl _ _ 35 rfl B 21 i0 _ 1 4 Tryz.underlying35 hi hz0 hz1 hz2 rfl (by omega) _ N _ rfl (World.ownsRow.alloc (Rn.own (unhide HN) (unhide HO)) _) ⟨w.heap.size, 0, none⟩ 1 1 [.int .i32 956] rfl rfl (World.news_of_block (cs := #[.int .i32 956]) (t := 21) (fr := (0, 0)) (heap_new w _)) (by simp [Value.oneCell']) (by omega) hm1 hm2 (by simp; omega) (w.heap.size + 1) (by simp) ?_; intro g9 cap9 w9 hown9 hgrow9 hat9 hlt9)
  go_ret
  exact ⟨_, rfl, Rn.app (zs := [956]) (unhide HN) rfl hown9, ((Gr.one w _).below.mono hB).trans (below_own hgrow9 (by simp; omega) (own_block (Rn.own (unhide HN) (unhide HO))))⟩
set_option maxHeartbeats 1600000 in
theorem putn_223 (B : Nat) (v : Value) (T : List Int) (w : World) (hB : B ≤ w.heap.size) (h : Rn B v T w) (hT : T.length ≤ 100000) : Calls Tryz.prog 41 #[v, .int .i32 223] w fun e w' => ∃ v', e = .returned v' ∧ Rn B v' (T ++ [115, 115]) w' ∧ Below B w w' := by
  obtain ⟨i0, hi, hz0, hz1, hz2⟩ := info_parts elem_info
  obtain ⟨xa, xc, hv⟩ := h.shape
  obtain ⟨N, hN⟩ : ∃ N, N = T.length := ⟨_, rfl⟩
  rw [← hN] at hv hT
  have HN := hide hN
  clear hN
  subst hv
  have HO := hide h
  clear h
  have hm1 : N + 2 ≤ maxLen := by unfold maxLen; omega
  have hm2 : (N + 2) * 4 ≤ 140737488355328 := by omega
  go_enter Tryz.func41, Tryz.ntmps41
  go_wp2_with (at_builtin; refine wpList_append_lies _ rfl _ _ 35 rfl B 21 i0 _ 1 4 Tryz.underlying35 hi hz0 hz1 hz2 rfl (by omega) _ N _ rfl (World.ownsRow.alloc (Rn.own (unhide HN) (unhide HO)) _) ⟨w.heap.size, 0, none⟩ 2 2 [.int .i32 115, .int .i32 115] rfl rfl (World.news_of_block (cs := #[.int .i32 115, .int .i32 115]) (t := 21) (fr := (0, 0)) (heap_new w _)) (by simp [Value.oneCell']) (by omega) hm1 hm2 (by simp; omega) (w.heap.size + 1) (by simp) ?_; intro g9 cap9 w9 hown9 hgrow9 hat9 hlt9)
  go_ret
  exact ⟨_, rfl, Rn.app (zs := [115, 115]) (unhide HN) rfl hown9, ((Gr.one w _).below.mono hB).trans (below_own hgrow9 (by simp; omega) (own_block (Rn.own (unhide HN) (unhide HO))))⟩
set_option maxHeartbeats 1600000 in
theorem putn_304 (B : Nat) (v : Value) (T : List Int) (w : World) (hB : B ≤ w.heap.size) (h : Rn B v T w) (hT : T.length ≤ 100000) : Calls Tryz.prog 41 #[v, .int .i32 304] w fun e w' => ∃ v', e = .returned v' ∧ Rn B v' (T ++ [105, 775]) w' ∧ Below B w w' := by
  obtain ⟨i0, hi, hz0, hz1, hz2⟩ := info_parts elem_info
  obtain ⟨xa, xc, hv⟩ := h.shape
  obtain ⟨N, hN⟩ : ∃ N, N = T.length := ⟨_, rfl⟩
  rw [← hN] at hv hT
  have HN := hide hN
  clear hN
  subst hv
  have HO := hide h
  clear h
  have hm1 : N + 2 ≤ maxLen := by unfold maxLen; omega
  have hm2 : (N + 2) * 4 ≤ 140737488355328 := by omega
  go_enter Tryz.func41, Tryz.ntmps41
  go_wp2_with (at_builtin; refine wpList_append_lies _ rfl _ _ 35 rfl B 21 i0 _ 1 4 Tryz.underlying35 hi hz0 hz1 hz2 rfl (by omega) _ N _ rfl (World.ownsRow.alloc (Rn.own (unhide HN) (unhide HO)) _) ⟨w.heap.size, 0, none⟩ 2 2 [.int .i32 105, .int .i32 775] rfl rfl (World.news_of_block (cs := #[.int .i32 105, .int .i32 775]) (t := 21) (fr := (0, 0)) (heap_new w _)) (by simp [Value.oneCell']) (by omega) hm1 hm2 (by simp; omega) (w.heap.size + 1) (by simp) ?_; intro g9 cap9 w9 hown9 hgrow9 hat9 hlt9)
  go_ret
  exact ⟨_, rfl, Rn.app (zs := [105, 775]) (unhide HN) rfl hown9, ((Gr.one w _).below.mono hB).trans (below_own hgrow9 (by simp; omega) (own_block (Rn.own (unhide HN) (unhide HO))))⟩
set_option maxHeartbeats 1600000 in
theorem putn_329 (B : Nat) (v : Value) (T : List Int) (w : World) (hB : B ≤ w.heap.size) (h : Rn B v T w) (hT : T.length ≤ 100000) : Calls Tryz.prog 41 #[v, .int .i32 329] w fun e w' => ∃ v', e = .returned v' ∧ Rn B v' (T ++ [700, 110]) w' ∧ Below B w w' := by
  obtain ⟨i0, hi, hz0, hz1, hz2⟩ := info_parts elem_info
  obtain ⟨xa, xc, hv⟩ := h.shape
  obtain ⟨N, hN⟩ : ∃ N, N = T.length := ⟨_, rfl⟩
  rw [← hN] at hv hT
  have HN := hide hN
  clear hN
  subst hv
  have HO := hide h
  clear h
  have hm1 : N + 2 ≤ maxLen := by unfold maxLen; omega
  have hm2 : (N + 2) * 4 ≤ 140737488355328 := by omega
  go_enter Tryz.func41, Tryz.ntmps41
  go_wp2_with (at_builtin; refine wpList_append_lies _ rfl _ _ 35 rfl B 21 i0 _ 1 4 Tryz.underlying35 hi hz0 hz1 hz2 rfl (by omega) _ N _ rfl (World.ownsRow.alloc (Rn.own (unhide HN) (unhide HO)) _) ⟨w.heap.size, 0, none⟩ 2 2 [.int .i32 700, .int .i32 110] rfl rfl (World.news_of_block (cs := #[.int .i32 700, .int .i32 110]) (t := 21) (fr := (0, 0)) (heap_new w _)) (by simp [Value.oneCell']) (by omega) hm1 hm2 (by simp; omega) (w.heap.size + 1) (by simp) ?_; intro g9 cap9 w9 hown9 hgrow9 hat9 hlt9)
  go_ret
  exact ⟨_, rfl, Rn.app (zs := [700, 110]) (unhide HN) rfl hown9, ((Gr.one w _).below.mono hB).trans (below_own hgrow9 (by simp; omega) (own_block (Rn.own (unhide HN) (unhide HO))))⟩
set_option maxHeartbeats 1600000 in
theorem putn_376 (B : Nat) (v : Value) (T : List Int) (w : World) (hB : B ≤ w.heap.size) (h : Rn B v T w) (hT : T.length ≤ 100000) : Calls Tryz.prog 41 #[v, .int .i32 376] w fun e w' => ∃ v', e = .returned v' ∧ Rn B v' (T ++ [255]) w' ∧ Below B w w' := by
  obtain ⟨i0, hi, hz0, hz1, hz2⟩ := info_parts elem_info
  obtain ⟨xa, xc, hv⟩ := h.shape
  obtain ⟨N, hN⟩ : ∃ N, N = T.length := ⟨_, rfl⟩
  rw [← hN] at hv hT
  have HN := hide hN
  clear hN
  subst hv
  have HO := hide h
  clear h
  have hm1 : N + 1 ≤ maxLen := by unfold maxLen; omega
  have hm2 : (N + 1) * 4 ≤ 140737488355328 := by omega
  go_enter Tryz.func41, Tryz.ntmps41
  go_wp2_with (at_builtin; refine wpList_append_lies _ rfl _ _ 35 rfl B 21 i0 _ 1 4 Tryz.underlying35 hi hz0 hz1 hz2 rfl (by omega) _ N _ rfl (World.ownsRow.alloc (Rn.own (unhide HN) (unhide HO)) _) ⟨w.heap.size, 0, none⟩ 1 1 [.int .i32 255] rfl rfl (World.news_of_block (cs := #[.int .i32 255]) (t := 21) (fr := (0, 0)) (heap_new w _)) (by simp [Value.oneCell']) (by omega) hm1 hm2 (by simp; omega) (w.heap.size + 1) (by simp) ?_; intro g9 cap9 w9 hown9 hgrow9 hat9 hlt9)
  go_ret
  exact ⟨_, rfl, Rn.app (zs := [255]) (unhide HN) rfl hown9, ((Gr.one w _).below.mono hB).trans (below_own hgrow9 (by simp; omega) (own_block (Rn.own (unhide HN) (unhide HO))))⟩
set_option maxHeartbeats 1600000 in
theorem putn_383 (B : Nat) (v : Value) (T : List Int) (w : World) (hB : B ≤ w.heap.size) (h : Rn B v T w) (hT : T.length ≤ 100000) : Calls Tryz.prog 41 #[v, .int .i32 383] w fun e w' => ∃ v', e = .returned v' ∧ Rn B v' (T ++ [115]) w' ∧ Below B w w' := by
  obtain ⟨i0, hi, hz0, hz1, hz2⟩ := info_parts elem_info
  obtain ⟨xa, xc, hv⟩ := h.shape
  obtain ⟨N, hN⟩ : ∃ N, N = T.length := ⟨_, rfl⟩
  rw [← hN] at hv hT
  have HN := hide hN
  clear hN
  subst hv
  have HO := hide h
  clear h
  have hm1 : N + 1 ≤ maxLen := by unfold maxLen; omega
  have hm2 : (N + 1) * 4 ≤ 140737488355328 := by omega
  go_enter Tryz.func41, Tryz.ntmps41
  go_wp2_with (at_builtin; refine wpList_append_lies _ rfl _ _ 35 rfl B 21 i0 _ 1 4 Tryz.underlying35 hi hz0 hz1 hz2 rfl (by omega) _ N _ rfl (World.ownsRow.alloc (Rn.own (unhide HN) (unhide HO)) _) ⟨w.heap.size, 0, none⟩ 1 1 [.int .i32 115] rfl rfl (World.news_of_block (cs := #[.int .i32 115]) (t := 21) (fr := (0, 0)) (heap_new w _)) (by simp [Value.oneCell']) (by omega) hm1 hm2 (by simp; omega) (w.heap.size + 1) (by simp) ?_; intro g9 cap9 w9 hown9 hgrow9 hat9 hlt9)
  go_ret
  exact ⟨_, rfl, Rn.app (zs := [115]) (unhide HN) rfl hown9, ((Gr.one w _).below.mono hB).trans (below_own hgrow9 (by simp; omega) (own_block (Rn.own (unhide HN) (unhide HO))))⟩
set_option maxHeartbeats 1600000 in
theorem putn_902 (B : Nat) (v : Value) (T : List Int) (w : World) (hB : B ≤ w.heap.size) (h : Rn B v T w) (hT : T.length ≤ 100000) : Calls Tryz.prog 41 #[v, .int .i32 902] w fun e w' => ∃ v', e = .returned v' ∧ Rn B v' (T ++ [940]) w' ∧ Below B w w' := by
  obtain ⟨i0, hi, hz0, hz1, hz2⟩ := info_parts elem_info
  obtain ⟨xa, xc, hv⟩ := h.shape
  obtain ⟨N, hN⟩ : ∃ N, N = T.length := ⟨_, rfl⟩
  rw [← hN] at hv hT
  have HN := hide hN
  clear hN
  subst hv
  have HO := hide h
  clear h
  have hm1 : N + 1 ≤ maxLen := by unfold maxLen; omega
  have hm2 : (N + 1) * 4 ≤ 140737488355328 := by omega
  go_enter Tryz.func41, Tryz.ntmps41
  go_wp2_with (at_builtin; refine wpList_append_lies _ rfl _ _ 35 rfl B 21 i0 _ 1 4 Tryz.underlying35 hi hz0 hz1 hz2 rfl (by omega) _ N _ rfl (World.ownsRow.alloc (Rn.own (unhide HN) (unhide HO)) _) ⟨w.heap.size, 0, none⟩ 1 1 [.int .i32 940] rfl rfl (World.news_of_block (cs := #[.int .i32 940]) (t := 21) (fr := (0, 0)) (heap_new w _)) (by simp [Value.oneCell']) (by omega) hm1 hm2 (by simp; omega) (w.heap.size + 1) (by simp) ?_; intro g9 cap9 w9 hown9 hgrow9 hat9 hlt9)
  go_ret
  exact ⟨_, rfl, Rn.app (zs := [940]) (unhide HN) rfl hown9, ((Gr.one w _).below.mono hB).trans (below_own hgrow9 (by simp; omega) (own_block (Rn.own (unhide HN) (unhide HO))))⟩
set_option maxHeartbeats 1600000 in
theorem putn_908 (B : Nat) (v : Value) (T : List Int) (w : World) (hB : B ≤ w.heap.size) (h : Rn B v T w) (hT : T.length ≤ 100000) : Calls Tryz.prog 41 #[v, .int .i32 908] w fun e w' => ∃ v', e = .returned v' ∧ Rn B v' (T ++ [972]) w' ∧ Below B w w' := by
  obtain ⟨i0, hi, hz0, hz1, hz2⟩ := info_parts elem_info
  obtain ⟨xa, xc, hv⟩ := h.shape
  obtain ⟨N, hN⟩ : ∃ N, N = T.length := ⟨_, rfl⟩
  rw [← hN] at hv hT
  have HN := hide hN
  clear hN
  subst hv
  have HO := hide h
  clear h
  have hm1 : N + 1 ≤ maxLen := by unfold maxLen; omega
  have hm2 : (N + 1) * 4 ≤ 140737488355328 := by omega
  go_enter Tryz.func41, Tryz.ntmps41
  go_wp2_with (at_builtin; refine wpList_append_lies _ rfl _ _ 35 rfl B 21 i0 _ 1 4 Tryz.underlying35 hi hz0 hz1 hz2 rfl (by omega) _ N _ rfl (World.ownsRow.alloc (Rn.own (unhide HN) (unhide HO)) _) ⟨w.heap.size, 0, none⟩ 1 1 [.int .i32 972] rfl rfl (World.news_of_block (cs := #[.int .i32 972]) (t := 21) (fr := (0, 0)) (heap_new w _)) (by simp [Value.oneCell']) (by omega) hm1 hm2 (by simp; omega) (w.heap.size + 1) (by simp) ?_; intro g9 cap9 w9 hown9 hgrow9 hat9 hlt9)
  go_ret
  exact ⟨_, rfl, Rn.app (zs := [972]) (unhide HN) rfl hown9, ((Gr.one w _).below.mono hB).trans (below_own hgrow9 (by simp; omega) (own_block (Rn.own (unhide HN) (unhide HO))))⟩
set_option maxHeartbeats 1600000 in
theorem putn_910 (B : Nat) (v : Value) (T : List Int) (w : World) (hB : B ≤ w.heap.size) (h : Rn B v T w) (hT : T.length ≤ 100000) : Calls Tryz.prog 41 #[v, .int .i32 910] w fun e w' => ∃ v', e = .returned v' ∧ Rn B v' (T ++ [973]) w' ∧ Below B w w' := by
  obtain ⟨i0, hi, hz0, hz1, hz2⟩ := info_parts elem_info
  obtain ⟨xa, xc, hv⟩ := h.shape
  obtain ⟨N, hN⟩ : ∃ N, N = T.length := ⟨_, rfl⟩
  rw [← hN] at hv hT
  have HN := hide hN
  clear hN
  subst hv
  have HO := hide h
  clear h
  have hm1 : N + 1 ≤ maxLen := by unfold maxLen; omega
  have hm2 : (N + 1) * 4 ≤ 140737488355328 := by omega
  go_enter Tryz.func41, Tryz.ntmps41
  go_wp2_with (at_builtin; refine wpList_append_lies _ rfl _ _ 35 rfl B 21 i0 _ 1 4 Tryz.underlying35 hi hz0 hz1 hz2 rfl (by omega) _ N _ rfl (World.ownsRow.alloc (Rn.own (unhide HN) (unhide HO)) _) ⟨w.heap.size, 0, none⟩ 1 1 [.int .i32 973] rfl rfl (World.news_of_block (cs := #[.int .i32 973]) (t := 21) (fr := (0, 0)) (heap_new w _)) (by simp [Value.oneCell']) (by omega) hm1 hm2 (by simp; omega) (w.heap.size + 1) (by simp) ?_; intro g9 cap9 w9 hown9 hgrow9 hat9 hlt9)
  go_ret
  exact ⟨_, rfl, Rn.app (zs := [973]) (unhide HN) rfl hown9, ((Gr.one w _).below.mono hB).trans (below_own hgrow9 (by simp; omega) (own_block (Rn.own (unhide HN) (unhide HO))))⟩
set_option maxHeartbeats 1600000 in
theorem putn_911 (B : Nat) (v : Value) (T : List Int) (w : World) (hB : B ≤ w.heap.size) (h : Rn B v T w) (hT : T.length ≤ 100000) : Calls Tryz.prog 41 #[v, .int .i32 911] w fun e w' => ∃ v', e = .returned v' ∧ Rn B v' (T ++ [974]) w' ∧ Below B w w' := by
  obtain ⟨i0, hi, hz0, hz1, hz2⟩ := info_parts elem_info
  obtain ⟨xa, xc, hv⟩ := h.shape
  obtain ⟨N, hN⟩ : ∃ N, N = T.length := ⟨_, rfl⟩
  rw [← hN] at hv hT
  have HN := hide hN
  clear hN
  subst hv
  have HO := hide h
  clear h
  have hm1 : N + 1 ≤ maxLen := by unfold maxLen; omega
  have hm2 : (N + 1) * 4 ≤ 140737488355328 := by omega
  go_enter Tryz.func41, Tryz.ntmps41
  go_wp2_with (at_builtin; refine wpList_append_lies _ rfl _ _ 35 rfl B 21 i0 _ 1 4 Tryz.underlying35 hi hz0 hz1 hz2 rfl (by omega) _ N _ rfl (World.ownsRow.alloc (Rn.own (unhide HN) (unhide HO)) _) ⟨w.heap.size, 0, none⟩ 1 1 [.int .i32 974] rfl rfl (World.news_of_block (cs := #[.int .i32 974]) (t := 21) (fr := (0, 0)) (heap_new w _)) (by simp [Value.oneCell']) (by omega) hm1 hm2 (by simp; omega) (w.heap.size + 1) (by simp) ?_; intro g9 cap9 w9 hown9 hgrow9 hat9 hlt9)
  go_ret
  exact ⟨_, rfl, Rn.app (zs := [974]) (unhide HN) rfl hown9, ((Gr.one w _).below.mono hB).trans (below_own hgrow9 (by simp; omega) (own_block (Rn.own (unhide HN) (unhide HO))))⟩
set_option maxHeartbeats 1600000 in
theorem putn_962 (B : Nat) (v : Value) (T : List Int) (w : World) (hB : B ≤ w.heap.size) (h : Rn B v T w) (hT : T.length ≤ 100000) : Calls Tryz.prog 41 #[v, .int .i32 962] w fun e w' => ∃ v', e = .returned v' ∧ Rn B v' (T ++ [963]) w' ∧ Below B w w' := by
  obtain ⟨i0, hi, hz0, hz1, hz2⟩ := info_parts elem_info
  obtain ⟨xa, xc, hv⟩ := h.shape
  obtain ⟨N, hN⟩ : ∃ N, N = T.length := ⟨_, rfl⟩
  rw [← hN] at hv hT
  have HN := hide hN
  clear hN
  subst hv
  have HO := hide h
  clear h
  have hm1 : N + 1 ≤ maxLen := by unfold maxLen; omega
  have hm2 : (N + 1) * 4 ≤ 140737488355328 := by omega
  go_enter Tryz.func41, Tryz.ntmps41
  go_wp2_with (at_builtin; refine wpList_append_lies _ rfl _ _ 35 rfl B 21 i0 _ 1 4 Tryz.underlying35 hi hz0 hz1 hz2 rfl (by omega) _ N _ rfl (World.ownsRow.alloc (Rn.own (unhide HN) (unhide HO)) _) ⟨w.heap.size, 0, none⟩ 1 1 [.int .i32 963] rfl rfl (World.news_of_block (cs := #[.int .i32 963]) (t := 21) (fr := (0, 0)) (heap_new w _)) (by simp [Value.oneCell']) (by omega) hm1 hm2 (by simp; omega) (w.heap.size + 1) (by simp) ?_; intro g9 cap9 w9 hown9 hgrow9 hat9 hlt9)
  go_ret
  exact ⟨_, rfl, Rn.app (zs := [963]) (unhide HN) rfl hown9, ((Gr.one w _).below.mono hB).trans (below_own hgrow9 (by simp; omega) (own_block (Rn.own (unhide HN) (unhide HO))))⟩
set_option maxHeartbeats 1600000 in
theorem putn_1025 (B : Nat) (v : Value) (T : List Int) (w : World) (hB : B ≤ w.heap.size) (h : Rn B v T w) (hT : T.length ≤ 100000) : Calls Tryz.prog 41 #[v, .int .i32 1025] w fun e w' => ∃ v', e = .returned v' ∧ Rn B v' (T ++ [1105]) w' ∧ Below B w w' := by
  obtain ⟨i0, hi, hz0, hz1, hz2⟩ := info_parts elem_info
  obtain ⟨xa, xc, hv⟩ := h.shape
  obtain ⟨N, hN⟩ : ∃ N, N = T.length := ⟨_, rfl⟩
  rw [← hN] at hv hT
  have HN := hide hN
  clear hN
  subst hv
  have HO := hide h
  clear h
  have hm1 : N + 1 ≤ maxLen := by unfold maxLen; omega
  have hm2 : (N + 1) * 4 ≤ 140737488355328 := by omega
  go_enter Tryz.func41, Tryz.ntmps41
  go_wp2_with (at_builtin; refine wpList_append_lies _ rfl _ _ 35 rfl B 21 i0 _ 1 4 Tryz.underlying35 hi hz0 hz1 hz2 rfl (by omega) _ N _ rfl (World.ownsRow.alloc (Rn.own (unhide HN) (unhide HO)) _) ⟨w.heap.size, 0, none⟩ 1 1 [.int .i32 1105] rfl rfl (World.news_of_block (cs := #[.int .i32 1105]) (t := 21) (fr := (0, 0)) (heap_new w _)) (by simp [Value.oneCell']) (by omega) hm1 hm2 (by simp; omega) (w.heap.size + 1) (by simp) ?_; intro g9 cap9 w9 hown9 hgrow9 hat9 hlt9)
  go_ret
  exact ⟨_, rfl, Rn.app (zs := [1105]) (unhide HN) rfl hown9, ((Gr.one w _).below.mono hB).trans (below_own hgrow9 (by simp; omega) (own_block (Rn.own (unhide HN) (unhide HO))))⟩
set_option maxHeartbeats 1600000 in
theorem putn_8486 (B : Nat) (v : Value) (T : List Int) (w : World) (hB : B ≤ w.heap.size) (h : Rn B v T w) (hT : T.length ≤ 100000) : Calls Tryz.prog 41 #[v, .int .i32 8486] w fun e w' => ∃ v', e = .returned v' ∧ Rn B v' (T ++ [969]) w' ∧ Below B w w' := by
  obtain ⟨i0, hi, hz0, hz1, hz2⟩ := info_parts elem_info
  obtain ⟨xa, xc, hv⟩ := h.shape
  obtain ⟨N, hN⟩ : ∃ N, N = T.length := ⟨_, rfl⟩
  rw [← hN] at hv hT
  have HN := hide hN
  clear hN
  subst hv
  have HO := hide h
  clear h
  have hm1 : N + 1 ≤ maxLen := by unfold maxLen; omega
  have hm2 : (N + 1) * 4 ≤ 140737488355328 := by omega
  go_enter Tryz.func41, Tryz.ntmps41
  go_wp2_with (at_builtin; refine wpList_append_lies _ rfl _ _ 35 rfl B 21 i0 _ 1 4 Tryz.underlying35 hi hz0 hz1 hz2 rfl (by omega) _ N _ rfl (World.ownsRow.alloc (Rn.own (unhide HN) (unhide HO)) _) ⟨w.heap.size, 0, none⟩ 1 1 [.int .i32 969] rfl rfl (World.news_of_block (cs := #[.int .i32 969]) (t := 21) (fr := (0, 0)) (heap_new w _)) (by simp [Value.oneCell']) (by omega) hm1 hm2 (by simp; omega) (w.heap.size + 1) (by simp) ?_; intro g9 cap9 w9 hown9 hgrow9 hat9 hlt9)
  go_ret
  exact ⟨_, rfl, Rn.app (zs := [969]) (unhide HN) rfl hown9, ((Gr.one w _).below.mono hB).trans (below_own hgrow9 (by simp; omega) (own_block (Rn.own (unhide HN) (unhide HO))))⟩
set_option maxHeartbeats 1600000 in
theorem putn_8490 (B : Nat) (v : Value) (T : List Int) (w : World) (hB : B ≤ w.heap.size) (h : Rn B v T w) (hT : T.length ≤ 100000) : Calls Tryz.prog 41 #[v, .int .i32 8490] w fun e w' => ∃ v', e = .returned v' ∧ Rn B v' (T ++ [107]) w' ∧ Below B w w' := by
  obtain ⟨i0, hi, hz0, hz1, hz2⟩ := info_parts elem_info
  obtain ⟨xa, xc, hv⟩ := h.shape
  obtain ⟨N, hN⟩ : ∃ N, N = T.length := ⟨_, rfl⟩
  rw [← hN] at hv hT
  have HN := hide hN
  clear hN
  subst hv
  have HO := hide h
  clear h
  have hm1 : N + 1 ≤ maxLen := by unfold maxLen; omega
  have hm2 : (N + 1) * 4 ≤ 140737488355328 := by omega
  go_enter Tryz.func41, Tryz.ntmps41
  go_wp2_with (at_builtin; refine wpList_append_lies _ rfl _ _ 35 rfl B 21 i0 _ 1 4 Tryz.underlying35 hi hz0 hz1 hz2 rfl (by omega) _ N _ rfl (World.ownsRow.alloc (Rn.own (unhide HN) (unhide HO)) _) ⟨w.heap.size, 0, none⟩ 1 1 [.int .i32 107] rfl rfl (World.news_of_block (cs := #[.int .i32 107]) (t := 21) (fr := (0, 0)) (heap_new w _)) (by simp [Value.oneCell']) (by omega) hm1 hm2 (by simp; omega) (w.heap.size + 1) (by simp) ?_; intro g9 cap9 w9 hown9 hgrow9 hat9 hlt9)
  go_ret
  exact ⟨_, rfl, Rn.app (zs := [107]) (unhide HN) rfl hown9, ((Gr.one w _).below.mono hB).trans (below_own hgrow9 (by simp; omega) (own_block (Rn.own (unhide HN) (unhide HO))))⟩
set_option maxHeartbeats 1600000 in
theorem putn_8491 (B : Nat) (v : Value) (T : List Int) (w : World) (hB : B ≤ w.heap.size) (h : Rn B v T w) (hT : T.length ≤ 100000) : Calls Tryz.prog 41 #[v, .int .i32 8491] w fun e w' => ∃ v', e = .returned v' ∧ Rn B v' (T ++ [229]) w' ∧ Below B w w' := by
  obtain ⟨i0, hi, hz0, hz1, hz2⟩ := info_parts elem_info
  obtain ⟨xa, xc, hv⟩ := h.shape
  obtain ⟨N, hN⟩ : ∃ N, N = T.length := ⟨_, rfl⟩
  rw [← hN] at hv hT
  have HN := hide hN
  clear hN
  subst hv
  have HO := hide h
  clear h
  have hm1 : N + 1 ≤ maxLen := by unfold maxLen; omega
  have hm2 : (N + 1) * 4 ≤ 140737488355328 := by omega
  go_enter Tryz.func41, Tryz.ntmps41
  go_wp2_with (at_builtin; refine wpList_append_lies _ rfl _ _ 35 rfl B 21 i0 _ 1 4 Tryz.underlying35 hi hz0 hz1 hz2 rfl (by omega) _ N _ rfl (World.ownsRow.alloc (Rn.own (unhide HN) (unhide HO)) _) ⟨w.heap.size, 0, none⟩ 1 1 [.int .i32 229] rfl rfl (World.news_of_block (cs := #[.int .i32 229]) (t := 21) (fr := (0, 0)) (heap_new w _)) (by simp [Value.oneCell']) (by omega) hm1 hm2 (by simp; omega) (w.heap.size + 1) (by simp) ?_; intro g9 cap9 w9 hown9 hgrow9 hat9 hlt9)
  go_ret
  exact ⟨_, rfl, Rn.app (zs := [229]) (unhide HN) rfl hown9, ((Gr.one w _).below.mono hB).trans (below_own hgrow9 (by simp; omega) (own_block (Rn.own (unhide HN) (unhide HO))))⟩
set_option maxHeartbeats 1600000 in
theorem putn_64256 (B : Nat) (v : Value) (T : List Int) (w : World) (hB : B ≤ w.heap.size) (h : Rn B v T w) (hT : T.length ≤ 100000) : Calls Tryz.prog 41 #[v, .int .i32 64256] w fun e w' => ∃ v', e = .returned v' ∧ Rn B v' (T ++ [102, 102]) w' ∧ Below B w w' := by
  obtain ⟨i0, hi, hz0, hz1, hz2⟩ := info_parts elem_info
  obtain ⟨xa, xc, hv⟩ := h.shape
  obtain ⟨N, hN⟩ : ∃ N, N = T.length := ⟨_, rfl⟩
  rw [← hN] at hv hT
  have HN := hide hN
  clear hN
  subst hv
  have HO := hide h
  clear h
  have hm1 : N + 2 ≤ maxLen := by unfold maxLen; omega
  have hm2 : (N + 2) * 4 ≤ 140737488355328 := by omega
  go_enter Tryz.func41, Tryz.ntmps41
  go_wp2_with (at_builtin; refine wpList_append_lies _ rfl _ _ 35 rfl B 21 i0 _ 1 4 Tryz.underlying35 hi hz0 hz1 hz2 rfl (by omega) _ N _ rfl (World.ownsRow.alloc (Rn.own (unhide HN) (unhide HO)) _) ⟨w.heap.size, 0, none⟩ 2 2 [.int .i32 102, .int .i32 102] rfl rfl (World.news_of_block (cs := #[.int .i32 102, .int .i32 102]) (t := 21) (fr := (0, 0)) (heap_new w _)) (by simp [Value.oneCell']) (by omega) hm1 hm2 (by simp; omega) (w.heap.size + 1) (by simp) ?_; intro g9 cap9 w9 hown9 hgrow9 hat9 hlt9)
  go_ret
  exact ⟨_, rfl, Rn.app (zs := [102, 102]) (unhide HN) rfl hown9, ((Gr.one w _).below.mono hB).trans (below_own hgrow9 (by simp; omega) (own_block (Rn.own (unhide HN) (unhide HO))))⟩
set_option maxHeartbeats 1600000 in
theorem putn_64257 (B : Nat) (v : Value) (T : List Int) (w : World) (hB : B ≤ w.heap.size) (h : Rn B v T w) (hT : T.length ≤ 100000) : Calls Tryz.prog 41 #[v, .int .i32 64257] w fun e w' => ∃ v', e = .returned v' ∧ Rn B v' (T ++ [102, 105]) w' ∧ Below B w w' := by
  obtain ⟨i0, hi, hz0, hz1, hz2⟩ := info_parts elem_info
  obtain ⟨xa, xc, hv⟩ := h.shape
  obtain ⟨N, hN⟩ : ∃ N, N = T.length := ⟨_, rfl⟩
  rw [← hN] at hv hT
  have HN := hide hN
  clear hN
  subst hv
  have HO := hide h
  clear h
  have hm1 : N + 2 ≤ maxLen := by unfold maxLen; omega
  have hm2 : (N + 2) * 4 ≤ 140737488355328 := by omega
  go_enter Tryz.func41, Tryz.ntmps41
  go_wp2_with (at_builtin; refine wpList_append_lies _ rfl _ _ 35 rfl B 21 i0 _ 1 4 Tryz.underlying35 hi hz0 hz1 hz2 rfl (by omega) _ N _ rfl (World.ownsRow.alloc (Rn.own (unhide HN) (unhide HO)) _) ⟨w.heap.size, 0, none⟩ 2 2 [.int .i32 102, .int .i32 105] rfl rfl (World.news_of_block (cs := #[.int .i32 102, .int .i32 105]) (t := 21) (fr := (0, 0)) (heap_new w _)) (by simp [Value.oneCell']) (by omega) hm1 hm2 (by simp; omega) (w.heap.size + 1) (by simp) ?_; intro g9 cap9 w9 hown9 hgrow9 hat9 hlt9)
  go_ret
  exact ⟨_, rfl, Rn.app (zs := [102, 105]) (unhide HN) rfl hown9, ((Gr.one w _).below.mono hB).trans (below_own hgrow9 (by simp; omega) (own_block (Rn.own (unhide HN) (unhide HO))))⟩
set_option maxHeartbeats 1600000 in
theorem putn_64258 (B : Nat) (v : Value) (T : List Int) (w : World) (hB : B ≤ w.heap.size) (h : Rn B v T w) (hT : T.length ≤ 100000) : Calls Tryz.prog 41 #[v, .int .i32 64258] w fun e w' => ∃ v', e = .returned v' ∧ Rn B v' (T ++ [102, 108]) w' ∧ Below B w w' := by
  obtain ⟨i0, hi, hz0, hz1, hz2⟩ := info_parts elem_info
  obtain ⟨xa, xc, hv⟩ := h.shape
  obtain ⟨N, hN⟩ : ∃ N, N = T.length := ⟨_, rfl⟩
  rw [← hN] at hv hT
  have HN := hide hN
  clear hN
  subst hv
  have HO := hide h
  clear h
  have hm1 : N + 2 ≤ maxLen := by unfold maxLen; omega
  have hm2 : (N + 2) * 4 ≤ 140737488355328 := by omega
  go_enter Tryz.func41, Tryz.ntmps41
  go_wp2_with (at_builtin; refine wpList_append_lies _ rfl _ _ 35 rfl B 21 i0 _ 1 4 Tryz.underlying35 hi hz0 hz1 hz2 rfl (by omega) _ N _ rfl (World.ownsRow.alloc (Rn.own (unhide HN) (unhide HO)) _) ⟨w.heap.size, 0, none⟩ 2 2 [.int .i32 102, .int .i32 108] rfl rfl (World.news_of_block (cs := #[.int .i32 102, .int .i32 108]) (t := 21) (fr := (0, 0)) (heap_new w _)) (by simp [Value.oneCell']) (by omega) hm1 hm2 (by simp; omega) (w.heap.size + 1) (by simp) ?_; intro g9 cap9 w9 hown9 hgrow9 hat9 hlt9)
  go_ret
  exact ⟨_, rfl, Rn.app (zs := [102, 108]) (unhide HN) rfl hown9, ((Gr.one w _).below.mono hB).trans (below_own hgrow9 (by simp; omega) (own_block (Rn.own (unhide HN) (unhide HO))))⟩
set_option maxHeartbeats 1600000 in
theorem putn_64259 (B : Nat) (v : Value) (T : List Int) (w : World) (hB : B ≤ w.heap.size) (h : Rn B v T w) (hT : T.length ≤ 100000) : Calls Tryz.prog 41 #[v, .int .i32 64259] w fun e w' => ∃ v', e = .returned v' ∧ Rn B v' (T ++ [102, 102, 105]) w' ∧ Below B w w' := by
  obtain ⟨i0, hi, hz0, hz1, hz2⟩ := info_parts elem_info
  obtain ⟨xa, xc, hv⟩ := h.shape
  obtain ⟨N, hN⟩ : ∃ N, N = T.length := ⟨_, rfl⟩
  rw [← hN] at hv hT
  have HN := hide hN
  clear hN
  subst hv
  have HO := hide h
  clear h
  have hm1 : N + 3 ≤ maxLen := by unfold maxLen; omega
  have hm2 : (N + 3) * 4 ≤ 140737488355328 := by omega
  go_enter Tryz.func41, Tryz.ntmps41
  go_wp2_with (at_builtin; refine wpList_append_lies _ rfl _ _ 35 rfl B 21 i0 _ 1 4 Tryz.underlying35 hi hz0 hz1 hz2 rfl (by omega) _ N _ rfl (World.ownsRow.alloc (Rn.own (unhide HN) (unhide HO)) _) ⟨w.heap.size, 0, none⟩ 3 3 [.int .i32 102, .int .i32 102, .int .i32 105] rfl rfl (World.news_of_block (cs := #[.int .i32 102, .int .i32 102, .int .i32 105]) (t := 21) (fr := (0, 0)) (heap_new w _)) (by simp [Value.oneCell']) (by omega) hm1 hm2 (by simp; omega) (w.heap.size + 1) (by simp) ?_; intro g9 cap9 w9 hown9 hgrow9 hat9 hlt9)
  go_ret
  exact ⟨_, rfl, Rn.app (zs := [102, 102, 105]) (unhide HN) rfl hown9, ((Gr.one w _).below.mono hB).trans (below_own hgrow9 (by simp; omega) (own_block (Rn.own (unhide HN) (unhide HO))))⟩
set_option maxHeartbeats 1600000 in
theorem putn_64260 (B : Nat) (v : Value) (T : List Int) (w : World) (hB : B ≤ w.heap.size) (h : Rn B v T w) (hT : T.length ≤ 100000) : Calls Tryz.prog 41 #[v, .int .i32 64260] w fun e w' => ∃ v', e = .returned v' ∧ Rn B v' (T ++ [102, 102, 108]) w' ∧ Below B w w' := by
  obtain ⟨i0, hi, hz0, hz1, hz2⟩ := info_parts elem_info
  obtain ⟨xa, xc, hv⟩ := h.shape
  obtain ⟨N, hN⟩ : ∃ N, N = T.length := ⟨_, rfl⟩
  rw [← hN] at hv hT
  have HN := hide hN
  clear hN
  subst hv
  have HO := hide h
  clear h
  have hm1 : N + 3 ≤ maxLen := by unfold maxLen; omega
  have hm2 : (N + 3) * 4 ≤ 140737488355328 := by omega
  go_enter Tryz.func41, Tryz.ntmps41
  go_wp2_with (at_builtin; refine wpList_append_lies _ rfl _ _ 35 rfl B 21 i0 _ 1 4 Tryz.underlying35 hi hz0 hz1 hz2 rfl (by omega) _ N _ rfl (World.ownsRow.alloc (Rn.own (unhide HN) (unhide HO)) _) ⟨w.heap.size, 0, none⟩ 3 3 [.int .i32 102, .int .i32 102, .int .i32 108] rfl rfl (World.news_of_block (cs := #[.int .i32 102, .int .i32 102, .int .i32 108]) (t := 21) (fr := (0, 0)) (heap_new w _)) (by simp [Value.oneCell']) (by omega) hm1 hm2 (by simp; omega) (w.heap.size + 1) (by simp) ?_; intro g9 cap9 w9 hown9 hgrow9 hat9 hlt9)
  go_ret
  exact ⟨_, rfl, Rn.app (zs := [102, 102, 108]) (unhide HN) rfl hown9, ((Gr.one w _).below.mono hB).trans (below_own hgrow9 (by simp; omega) (own_block (Rn.own (unhide HN) (unhide HO))))⟩
set_option maxHeartbeats 1600000 in
theorem putn_64261 (B : Nat) (v : Value) (T : List Int) (w : World) (hB : B ≤ w.heap.size) (h : Rn B v T w) (hT : T.length ≤ 100000) : Calls Tryz.prog 41 #[v, .int .i32 64261] w fun e w' => ∃ v', e = .returned v' ∧ Rn B v' (T ++ [115, 116]) w' ∧ Below B w w' := by
  obtain ⟨i0, hi, hz0, hz1, hz2⟩ := info_parts elem_info
  obtain ⟨xa, xc, hv⟩ := h.shape
  obtain ⟨N, hN⟩ : ∃ N, N = T.length := ⟨_, rfl⟩
  rw [← hN] at hv hT
  have HN := hide hN
  clear hN
  subst hv
  have HO := hide h
  clear h
  have hm1 : N + 2 ≤ maxLen := by unfold maxLen; omega
  have hm2 : (N + 2) * 4 ≤ 140737488355328 := by omega
  go_enter Tryz.func41, Tryz.ntmps41
  go_wp2_with (at_builtin; refine wpList_append_lies _ rfl _ _ 35 rfl B 21 i0 _ 1 4 Tryz.underlying35 hi hz0 hz1 hz2 rfl (by omega) _ N _ rfl (World.ownsRow.alloc (Rn.own (unhide HN) (unhide HO)) _) ⟨w.heap.size, 0, none⟩ 2 2 [.int .i32 115, .int .i32 116] rfl rfl (World.news_of_block (cs := #[.int .i32 115, .int .i32 116]) (t := 21) (fr := (0, 0)) (heap_new w _)) (by simp [Value.oneCell']) (by omega) hm1 hm2 (by simp; omega) (w.heap.size + 1) (by simp) ?_; intro g9 cap9 w9 hown9 hgrow9 hat9 hlt9)
  go_ret
  exact ⟨_, rfl, Rn.app (zs := [115, 116]) (unhide HN) rfl hown9, ((Gr.one w _).below.mono hB).trans (below_own hgrow9 (by simp; omega) (own_block (Rn.own (unhide HN) (unhide HO))))⟩
set_option maxHeartbeats 1600000 in
theorem putn_else (r : Int) (B : Nat) (v : Value) (T : List Int) (w : World) (hB : B ≤ w.heap.size) (h : Rn B v T w) (hT : T.length ≤ 100000) (hn : r ∉ nms9.map (·.1)) : Calls Tryz.prog 41 #[v, .int .i32 r] w fun e w' => ∃ v', e = .returned v' ∧ Rn B v' (T ++ [r]) w' ∧ Below B w w' := by
  obtain ⟨i0, hi, hz0, hz1, hz2⟩ := info_parts elem_info
  obtain ⟨xa, xc, hv⟩ := h.shape
  obtain ⟨N, hN⟩ : ∃ N, N = T.length := ⟨_, rfl⟩
  rw [← hN] at hv hT
  have HN := hide hN
  clear hN
  subst hv
  have HO := hide h
  clear h
  have hm1 : N + 1 ≤ maxLen := by unfold maxLen; omega
  have hm2 : (N + 1) * 4 ≤ 140737488355328 := by omega
  have m181 : (r == 181) = false := by simpa using fun e : r = 181 => hn (by rw [e]; decide)
  have m223 : (r == 223) = false := by simpa using fun e : r = 223 => hn (by rw [e]; decide)
  have m304 : (r == 304) = false := by simpa using fun e : r = 304 => hn (by rw [e]; decide)
  have m329 : (r == 329) = false := by simpa using fun e : r = 329 => hn (by rw [e]; decide)
  have m376 : (r == 376) = false := by simpa using fun e : r = 376 => hn (by rw [e]; decide)
  have m383 : (r == 383) = false := by simpa using fun e : r = 383 => hn (by rw [e]; decide)
  have m902 : (r == 902) = false := by simpa using fun e : r = 902 => hn (by rw [e]; decide)
  have m908 : (r == 908) = false := by simpa using fun e : r = 908 => hn (by rw [e]; decide)
  have m910 : (r == 910) = false := by simpa using fun e : r = 910 => hn (by rw [e]; decide)
  have m911 : (r == 911) = false := by simpa using fun e : r = 911 => hn (by rw [e]; decide)
  have m962 : (r == 962) = false := by simpa using fun e : r = 962 => hn (by rw [e]; decide)
  have m1025 : (r == 1025) = false := by simpa using fun e : r = 1025 => hn (by rw [e]; decide)
  have m8486 : (r == 8486) = false := by simpa using fun e : r = 8486 => hn (by rw [e]; decide)
  have m8490 : (r == 8490) = false := by simpa using fun e : r = 8490 => hn (by rw [e]; decide)
  have m8491 : (r == 8491) = false := by simpa using fun e : r = 8491 => hn (by rw [e]; decide)
  have m64256 : (r == 64256) = false := by simpa using fun e : r = 64256 => hn (by rw [e]; decide)
  have m64257 : (r == 64257) = false := by simpa using fun e : r = 64257 => hn (by rw [e]; decide)
  have m64258 : (r == 64258) = false := by simpa using fun e : r = 64258 => hn (by rw [e]; decide)
  have m64259 : (r == 64259) = false := by simpa using fun e : r = 64259 => hn (by rw [e]; decide)
  have m64260 : (r == 64260) = false := by simpa using fun e : r = 64260 => hn (by rw [e]; decide)
  have m64261 : (r == 64261) = false := by simpa using fun e : r = 64261 => hn (by rw [e]; decide)
  clear hn
  go_enter Tryz.func41, Tryz.ntmps41
  go_wp2_with (at_builtin; refine wpList_append_lies _ rfl _ _ 35 rfl B 21 i0 _ 1 4 Tryz.underlying35 hi hz0 hz1 hz2 rfl (by omega) _ N _ rfl (World.ownsRow.alloc (Rn.own (unhide HN) (unhide HO)) _) ⟨w.heap.size, 0, none⟩ 1 1 [.int .i32 r] rfl rfl (World.news_of_block (cs := #[.int .i32 r]) (t := 21) (fr := (0, 0)) (heap_new w _)) (by simp [Value.oneCell']) (by omega) hm1 hm2 (by simp; omega) (w.heap.size + 1) (by simp) ?_; intro g9 cap9 w9 hown9 hgrow9 hat9 hlt9)
  go_ret
  exact ⟨_, rfl, Rn.app (zs := [r]) (unhide HN) rfl hown9, ((Gr.one w _).below.mono hB).trans (below_own hgrow9 (by simp; omega) (own_block (Rn.own (unhide HN) (unhide HO))))⟩
/-- putNamed, of any number. -/
theorem putn_any (r : Int) (B : Nat) (v : Value) (T : List Int) (w : World) (hB : B ≤ w.heap.size) (h : Rn B v T w) (hT : T.length ≤ 100000) : Calls Tryz.prog 41 #[v, .int .i32 r] w fun e w' => ∃ v', e = .returned v' ∧ Rn B v' (T ++ namL r nms9) w' ∧ Below B w w' := by
  by_cases hn : r ∈ nms9.map (·.1)
  · simp only [nms9, List.map_cons, List.map_nil, List.mem_cons, List.not_mem_nil, or_false] at hn
    rcases hn with rfl | rfl | rfl | rfl | rfl | rfl | rfl | rfl | rfl | rfl | rfl | rfl | rfl | rfl | rfl | rfl | rfl | rfl | rfl | rfl | rfl
    · exact putn_181 B v T w hB h hT
    · exact putn_223 B v T w hB h hT
    · exact putn_304 B v T w hB h hT
    · exact putn_329 B v T w hB h hT
    · exact putn_376 B v T w hB h hT
    · exact putn_383 B v T w hB h hT
    · exact putn_902 B v T w hB h hT
    · exact putn_908 B v T w hB h hT
    · exact putn_910 B v T w hB h hT
    · exact putn_911 B v T w hB h hT
    · exact putn_962 B v T w hB h hT
    · exact putn_1025 B v T w hB h hT
    · exact putn_8486 B v T w hB h hT
    · exact putn_8490 B v T w hB h hT
    · exact putn_8491 B v T w hB h hT
    · exact putn_64256 B v T w hB h hT
    · exact putn_64257 B v T w hB h hT
    · exact putn_64258 B v T w hB h hT
    · exact putn_64259 B v T w hB h hT
    · exact putn_64260 B v T w hB h hT
    · exact putn_64261 B v T w hB h hT
  · rw [namL_self r nms9 hn]
    exact putn_else r B v T w hB h hT hn
end Go.Proofs.YticgeabmhmojfaaGreatDoor
