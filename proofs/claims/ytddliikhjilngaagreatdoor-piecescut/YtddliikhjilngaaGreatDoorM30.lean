/- The laws' probe (awake). -/
import Derived.Test.YtddliikhjilngaaGreatDoorM29
namespace Go.Proofs.YtddliikhjilngaaGreatDoor
set_option maxRecDepth 100000
open Go.RowKit

theorem below_next13 {a b c : World} (h : Below a.heap.size a b) (k : Below b.heap.size b c) : Below a.heap.size a c := h.trans (k.mono h.size)
def av13 : ByteArray := ⟨#[67, 97, 102, 195, 137, 32, 97, 117, 32, 108, 97, 105, 116]⟩
def as13 : ByteArray := ⟨#[32, 99, 97, 102, 195, 169, 32, 32, 97, 117, 32, 32, 108, 97, 105, 116, 32]⟩
def ap13 : ByteArray := ⟨#[195, 169, 32, 65, 85]⟩
def aq13 : ByteArray := ⟨#[195, 169, 32, 32, 97, 117]⟩
theorem av13_ru : ruP av13 = [67, 97, 102, 201, 32, 97, 117, 32, 108, 97, 105, 116] := by kernel_rfl
theorem av13_nn : nnL 2 [67, 97, 102, 201, 32, 97, 117, 32, 108, 97, 105, 116] = [99, 97, 102, 233, 32, 97, 117, 32, 108, 97, 105, 116] := by kernel_rfl
theorem av13_st : stOk 2 [67, 97, 102, 201, 32, 97, 117, 32, 108, 97, 105, 116] = true := by kernel_rfl
theorem av13_ez : Ez 2 av13 ∧ vE 2 av13 = 0 ∧ vS 2 av13 = as13 := by
  refine ⟨⟨by decide, by kernel_rfl, by rw [av13_ru]; exact av13_st, by rw [av13_ru, av13_nn]; decide⟩, ?_, ?_⟩
  · unfold vE; rw [av13_ru, av13_nn]; kernel_rfl
  · unfold vS; rw [av13_ru, av13_nn]; kernel_rfl
theorem ap13_ru : ruP ap13 = [233, 32, 65, 85] := by kernel_rfl
theorem ap13_nf : nfOk (mapL true [233, 32, 65, 85]) = true := by kernel_rfl
theorem ap13_nn : nnL 2 [233, 32, 65, 85] = [233, 32, 97, 117] := by kernel_rfl
theorem ap13_pz : Pz 2 ap13 aq13 := by
  refine ⟨by decide, by kernel_rfl, by rw [ap13_ru]; exact ap13_nf, ?_, ?_, ?_, ?_, ?_⟩
  · rw [ap13_ru, ap13_nn]; decide
  · rw [ap13_ru, ap13_nn]; kernel_rfl
  · rw [ap13_ru, ap13_nn]; decide +kernel
  · rw [ap13_ru, ap13_nn]; kernel_rfl
  · rw [ap13_ru, ap13_nn]; kernel_rfl
theorem ap13_chk : chkI ⟨#[]⟩ ⟨#[]⟩ [ap13] false false = 0 := by kernel_rfl
theorem aw13_found : mat (bts as13) (bts ⟨#[]⟩) (bts ⟨#[]⟩) ([aq13].map bts) false false = true := by kernel_rfl
def ai13 : ByteArray := ⟨#[32, 97, 98]⟩
def ac13 : ByteArray := ⟨#[99, 97]⟩
def af13 : ByteArray := ⟨#[99, 32]⟩
def ax13 : ByteArray := ⟨#[32, 97, 98, 99, 97, 98, 99, 32]⟩
theorem aw13_yes : mat (bts ax13) (bts ai13) (bts af13) ([ac13].map bts) true true = true := by kernel_rfl
theorem aw13_no : mat (bts ai13) (bts ai13) (bts af13) ([ac13].map bts) true true = false := by kernel_rfl
theorem aw13_chk : chkI ai13 af13 [ac13] true true = 0 := by kernel_rfl
set_option maxHeartbeats 2000000 in
theorem awake13 (w : World) (hL : L13 w) : Calls Tryz.prog 6 #[] w fun e w' => e = .returned (.bool true) ∧ Below w.heap.size w w' := by
  have HA := hide (fun v W hW hv => asks_one av13 as13 ap13 aq13 v W hW av13_ez (by decide) ap13_pz ap13_chk hv)
  rw [aw13_found] at HA
  have HP := hide prepare_none
  have HY := hide (fun v W (hW : Mx W) hv => match_any ax13 ai13 af13 v [ac13] true true W (by decide) (fun _ => ⟨by decide, hW⟩) hv)
  have HN := hide (fun v W (hW : Mx W) hv => match_any ai13 ai13 af13 v [ac13] true true W (by decide) (fun _ => ⟨by decide, hW⟩) hv)
  have HC := hide (fun v W hv => check_any ai13 af13 v [ac13] true true W hv)
  rw [aw13_yes] at HY
  rw [aw13_no] at HN
  rw [aw13_chk] at HC
  have b0 := three13 w (.cells #[.string ac13] 9) (.cells #[.string ai13, .slice (some ⟨w.heap.size, 0, none⟩) 1 1, .string af13, .bool true, .bool true] 29) (.cells #[.string ap13] 9)
  have hL0 := hL.keep b0
  have hp0 : B5 (((w.alloc (.cells #[.string ac13] 9)).alloc (.cells #[.string ai13, .slice (some ⟨w.heap.size, 0, none⟩) 1 1, .string af13, .bool true, .bool true] 29)).alloc (.cells #[.string ap13] 9)) (w.heap.size + 1) (.string ai13) (.slice (some ⟨w.heap.size, 0, none⟩) 1 1) (.string af13) (.bool true) (.bool true) := by
    have h := B5.new (w.alloc (.cells #[.string ac13] 9)) (.string ai13) (.slice (some ⟨w.heap.size, 0, none⟩) 1 1) (.string af13) (.bool true) (.bool true) 29
    have e : (w.alloc (.cells #[.string ac13] 9)).heap.size = w.heap.size + 1 := by simp
    rw [e] at h
    exact h.keep (Below.one _ _)
  have ht0 : (((w.alloc (.cells #[.string ac13] 9)).alloc (.cells #[.string ai13, .slice (some ⟨w.heap.size, 0, none⟩) 1 1, .string af13, .bool true, .bool true] 29)).alloc (.cells #[.string ap13] 9)).cell? ⟨w.heap.size + 1 + 1, 0, none⟩ = some (.string ap13) := by
    have h := box1 ((w.alloc (.cells #[.string ac13] 9)).alloc (.cells #[.string ai13, .slice (some ⟨w.heap.size, 0, none⟩) 1 1, .string af13, .bool true, .bool true] 29)) (.string ap13) 9
    have e : ((w.alloc (.cells #[.string ac13] 9)).alloc (.cells #[.string ai13, .slice (some ⟨w.heap.size, 0, none⟩) 1 1, .string af13, .bool true, .bool true] 29)).heap.size = w.heap.size + 1 + 1 := by simp
    rwa [e] at h
  have hc0 : (((w.alloc (.cells #[.string ac13] 9)).alloc (.cells #[.string ai13, .slice (some ⟨w.heap.size, 0, none⟩) 1 1, .string af13, .bool true, .bool true] 29)).alloc (.cells #[.string ap13] 9)).cell? ⟨w.heap.size, 0, none⟩ = some (.string ac13) := by
    have h := box1 w (.string ac13) 9
    have b1 := Below.one (w.alloc (.cells #[.string ac13] 9)) (.cells #[.string ai13, .slice (some ⟨w.heap.size, 0, none⟩) 1 1, .string af13, .bool true, .bool true] 29)
    have b2 := b1.alloc b1.size (.cells #[.string ap13] 9)
    exact (b2.cell (cell_lt h)).trans h
  have H0 := hide (show L13 _ ∧ B5 _ _ _ _ _ _ _ ∧ _ from ⟨hL0, hp0, hc0⟩)
  have HT0 := hide (txs_one (c := 1) ht0)
  have HK : Hid (∀ W W2, (L13 W ∧ B5 W (w.heap.size + 1) (.string ai13) (.slice (some ⟨w.heap.size, 0, none⟩) 1 1) (.string af13) (.bool true) (.bool true) ∧ W.cell? ⟨w.heap.size, 0, none⟩ = some (.string ac13)) → Below W.heap.size W W2 → (L13 W2 ∧ B5 W2 (w.heap.size + 1) (.string ai13) (.slice (some ⟨w.heap.size, 0, none⟩) 1 1) (.string af13) (.bool true) (.bool true) ∧ W2.cell? ⟨w.heap.size, 0, none⟩ = some (.string ac13))) :=
    fun W W2 ⟨h1, h2, h3⟩ hb => ⟨h1.keep hb, h2.keep hb, (hb.cell (cell_lt h3)).trans h3⟩
  clear hL hp0 ht0 hc0 hL0
  go_enter Tryz.func6, Tryz.ntmps6
  go_wp2_with (first
    | (go_at_call 8; refine (unhide HC _ _ (txs_one (unhide H4).2.2)).mono ?_; rintro e w5 ⟨rfl, b5⟩; have t5 := below_next13 t4 b5)
    | (go_at_call 9; refine (unhide HN _ _ (unhide H3).1.m (txs_one (unhide H3).2.2)).mono ?_; rintro e w4 ⟨rfl, b4⟩; have t4 := below_next13 t3 b4; have H4 := hide (unhide HK _ _ (unhide H3) b4); obtain ⟨p0, p1, p2, p3, p4, -⟩ := (unhide H4).2.1)
    | (go_at_call 9; refine (unhide HY _ _ (unhide H2).1.m (txs_one (unhide H2).2.2)).mono ?_; rintro e w3 ⟨rfl, b3⟩; have t3 := below_next13 t2 b3; have H3 := hide (unhide HK _ _ (unhide H2) b3); obtain ⟨o0, o1, o2, o3, o4, -⟩ := (unhide H3).2.1)
    | (go_at_call 12; refine (unhide HP _).mono ?_; rintro e w2 ⟨rfl, b2⟩; have t2 := (below_next13 t1 b2).alloc (below_next13 t1 b2).size (.cells #[.string ⟨#[]⟩, .slice none 0 0, .string ⟨#[]⟩, .bool false, .bool false] 29); have H2 := hide (unhide HK _ _ (unhide HK _ _ (unhide H1) b2) (Below.one w2 (.cells #[.string ⟨#[]⟩, .slice none 0 0, .string ⟨#[]⟩, .bool false, .bool false] 29))); obtain ⟨n0, n1, n2, n3, n4, -⟩ := (unhide H2).2.1)
    | (go_at_call 11; refine (unhide HA _ _ (unhide H0).1 (unhide HT0)).mono ?_; rintro e w1 ⟨rfl, b1⟩; have t1 := below_next13 b0 b1; have H1 := hide (unhide HK _ _ (unhide H0) b1)))
  go_ret
  exact ⟨rfl, t5⟩
end Go.Proofs.YtddliikhjilngaaGreatDoor
