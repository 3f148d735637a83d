/- The law SpanLeast. -/
import Derived.Test.YtnlkefdicpeemaaLawLast
import Derived.Test.YtnlkefdicpeemaaSame
import Derived.Deep.AppendLies
namespace Go.Proofs.Ytnlkefdicpeemaa
open Go.RowKit

theorem fnd_find (l : List Sp) (r : Int) : fnd l r = match l.find? (fun s => inS s r) with | some s => s.h | none => 0 := by
  induction l with
  | nil => rfl
  | cons x l ih =>
    simp only [fnd, List.find?_cons]
    cases h : inS x r
    · simp [ih]
    · simp
theorem lastV_rev (l : List Sp) (r : Int) : lastV l.reverse r = fnd l r := by
  rw [fnd_find]; unfold lastV; rw [List.reverse_reverse]
  cases l.find? (fun s => inS s r) <;> rfl
theorem lastV_tb {l : List Sp} (h : isTb l) (r : Int) : lastV l r = fnd l r := by
  unfold lastV
  cases hf : l.reverse.find? (fun s => inS s r) with
  | none =>
    have := List.find?_eq_none.1 hf
    exact (fnd_zero l r fun x hx => by have h1 := this x (by simpa using hx); simpa using h1).symm
  | some s =>
    have h1 := List.find?_some hf
    have h2 := List.mem_of_find?_eq_some hf
    exact (fnd_at_mem h (s := s) (by simpa using h2) ((inS_iff _ _).1 (by simpa using h1))).symm
theorem tb_allMay {l : List Sp} (h : isTb l) : allMay l = true := by
  unfold allMay
  rw [List.all_eq_true]
  intro s hs
  rw [mayS_iff]
  exact tb_mem_may h hs
theorem allMay_rev {l : List Sp} (h : allMay l = true) : allMay l.reverse = true := by
  unfold allMay at h ⊢
  rw [List.all_reverse]; exact h
theorem rev_take (l : List Sp) (k : Nat) (hk : k < l.length) : l.reverse.take (k + 1) = l.reverse.take k ++ [l.getD (l.length - 1 - k) sp0] := by
  rw [List.take_add_one, List.getElem?_reverse hk]
  simp [List.getD, show l.length - 1 - k < l.length by omega]
theorem below_own {w w' : World} {B : Nat} {row : Option Nat} (h : w.grownBy w' row) (hB : B ≤ w.heap.size) (hr : ∀ g, row = some g → B ≤ g) : Below B w w' :=
  ⟨h.os, h.tape, h.output, h.size, fun i hi => h.block i (by omega) (fun e => by have := hr i e.symm; omega)⟩
theorem own_block {w : World} {B e size n : Nat} {v : Value} {xs : List Value} (h : w.ownsRow B e size v n xs) : ∀ g, v.ownBlock = some g → B ≤ g := by
  intro g hg
  rcases h.2 with ⟨hv, _⟩ | ⟨g', cap, cur, hv, hB, _⟩
  · subst hv; cases hg
  · subst hv
    simp only [Value.ownBlock, Option.some.injEq] at hg
    omega
theorem spcs_one (s : Sp) : spcs [s] = spc s := by simp [spcs]

set_option maxHeartbeats 400000 in
theorem least_no (v : Value) (l : List Sp) (w : World) (hT : Tab w v l) (hno : 200 < l.length ∨ chk l = 20) :
    Calls Try.prog 6 #[v] w fun e w' => e = .returned (.bool true) ∧ Below w.heap.size w w' := by
  have HA := hide awake_any
  by_cases h2 : 200 < l.length
  · obtain ⟨a, c, rfl, -⟩ := hT
    have hz : (200 : Int) < (l.length : Int) := by omega
    go_enter Try.func6, Try.ntmps6
    go_wp2_with (go_at_call 8; refine (unhide HA _).mono ?_; rintro e w7 ⟨rfl, hb7⟩)
    go_ret
    exact ⟨rfl, hb7⟩
  · have H1 := hide (check_any v l w hT)
    rw [hno.resolve_left h2] at H1
    obtain ⟨a, c, rfl, -⟩ := hT
    have hz : ¬ (200 : Int) < (l.length : Int) := by omega
    go_enter Try.func6, Try.ntmps6
    go_wp2_with (first
      | (go_at_call 9; refine (unhide H1).mono ?_; rintro e w1 ⟨rfl, g1⟩)
      | (go_at_call 8; refine (unhide HA _).mono ?_; rintro e w7 ⟨rfl, hb7⟩))
    go_ret
    exact ⟨rfl, below_on2 g1.below hb7⟩

set_option maxHeartbeats 3200000 in
theorem least_yes (v : Value) (l : List Sp) (w : World) (hT : Tab w v l) (hl : l.length ≤ 200) (hk0 : chk l = 0) :
    Calls Try.prog 6 #[v] w fun e w' => e = .returned (.bool true) ∧ Below w.heap.size w w' := by
  have HA := hide awake_any
  have mx := mixed
  obtain ⟨i0, hi, hz0', hz1, hz2⟩ := info_parts span_info
  have htb : isTb l := (chk_zero hk0).2
  have H1 := hide (check_any v l w hT)
  rw [hk0] at H1
  have HB1 : Hid (∀ W, Tab W v l → Calls Try.prog 15 #[v] W fun e w' => ∃ u, e = .returned (.tuple #[u, .int .i64 0]) ∧ Hid (Tab w' u l) ∧ Below W.heap.size W w') := fun W hW =>
    (build_all v l W hW hl (tb_allMay htb)).mono fun _ _ ⟨u, t, h1, h2, h3, h4⟩ => ⟨u, h1, by
      have e := tb_unique t l h2.1 htb (fun r => by rw [h2.2.2 r, lastV_tb htb r])
      rw [e] at h3; exact h3, h4⟩
  have HB2 : Hid (∀ W x, Tab W x l.reverse → Calls Try.prog 15 #[x] W fun e w' => ∃ u, e = .returned (.tuple #[u, .int .i64 0]) ∧ Hid (Tab w' u l) ∧ Below W.heap.size W w') := fun W x hW =>
    (build_all x l.reverse W hW (by simpa using hl) (allMay_rev (tb_allMay htb))).mono fun _ _ ⟨u, t, h1, h2, h3, h4⟩ => ⟨u, h1, by
      have e := tb_unique t l h2.1 htb (fun r => by rw [h2.2.2 r, lastV_rev l r])
      rw [e] at h3; exact h3, h4⟩
  have HS : Hid (∀ (W : World) v1 v2, Tab W v1 l → Tab W v2 l → Calls Try.prog 17 #[v1, v2] W fun e w' => e = .returned (.bool true) ∧ Gr W w') := fun W v1 v2 h1 h2 => by
    have := rsame_any v1 v2 l l W h1 h2 (by omega)
    rwa [eqL_true rfl] at this
  have HTv := hide hT
  clear htb hk0
  obtain ⟨a, c, rfl, hc⟩ := hT
  have HC := hide hc
  clear hc
  have hz : ¬ (200 : Int) < (l.length : Int) := by omega
  have a1 : IntKind.i64.wrap ((l.length : Int) - 1) = (l.length : Int) - 1 := by rw [IntKind.wrap_i64]; omega
  go_enter Try.func6, Try.ntmps6
  go_wp2_with (go_at_call 9; refine (unhide H1).mono ?_; rintro e w1 ⟨rfl, g1⟩)
  go_loopw [3, 4] (fun x y wr => ∃ k : Nat, k ≤ l.length ∧ y = .int .i64 ((l.length : Int) - (k : Int) - 1) ∧ wr.ownsRow w1.heap.size 37 3 x k (spcs (l.reverse.take k)) ∧ Below w1.heap.size w1 wr) (fun _ y _ => (intOf y + 1).toNat)
  case atStart => exact ⟨0, Nat.zero_le _, by congr 1, ⟨rfl, .inl ⟨rfl, rfl⟩⟩, Below.refl _ _⟩
  case round =>
    obtain ⟨k, hk, rfl, hown, hb⟩ := hrel
    by_cases hlt : k < l.length
    · obtain ⟨b, o, rfl, hcc⟩ := unhide HC (by omega)
      have hz9 : (0 : Int) ≤ (l.length : Int) - (k : Int) - 1 := by omega
      have hz8 : (l.length : Int) - (k : Int) - 1 < (l.length : Int) := by omega
      have hS := rev_take l k hlt
      obtain ⟨j, hj⟩ : ∃ j, j = l.length - 1 - k := ⟨_, rfl⟩
      rw [← hj] at hS
      have hjz : (l.length : Int) - (k : Int) - 1 = (j : Int) := by omega
      have k2 : IntKind.i64.wrap ((j : Int) - 1) = (j : Int) - 1 := by rw [IntKind.wrap_i64]; omega
      obtain ⟨c1, c2, c3⟩ := hcc j (by omega)
      replace c1 := g1.cell c1
      replace c2 := g1.cell c2
      replace c3 := g1.cell c3
      replace c1 := (hb.cell (p := ⟨b, o + j * 3, none⟩) (cell_lt c1)).trans c1
      replace c2 := (hb.cell (p := ⟨b, o + j * 3 + 1, none⟩) (cell_lt c2)).trans c2
      replace c3 := (hb.cell (p := ⟨b, o + j * 3 + 2, none⟩) (cell_lt c3)).trans c3
      have hS2 : spcs (l.reverse.take (k + 1)) = spcs (l.reverse.take k) ++ [.int .i32 (l.getD j sp0).f, .int .i32 (l.getD j sp0).t, .int .i64 (l.getD j sp0).h] := by
        rw [hS, spcs_append, spcs_one]; rfl
      rw [hjz] at hz9 hz8
      have HJ := hide hj
      have HJZ := hide hjz
      clear hS hj hcc
      generalize l.getD j sp0 = s at *
      obtain ⟨f, t, h⟩ := s
      dsimp only at c1 c2 c3 hS2
      have HS2 := hide hS2
      clear hS2
      have hm1 : k + 1 ≤ maxLen := by unfold maxLen; omega
      have hm2 : (k + 1) * 16 ≤ 140737488355328 := by omega
      have hsz := hb.size
      rw [hjz]
      clear hjz
      go_wp2_with (at_builtin; refine wpList_append_lies _ rfl _ _ 22 rfl w1.heap.size 37 i0 _ 3 16 Try.underlying22 hi hz0' hz1 hz2 rfl (by omega) _ _ _ rfl (hown.alloc _) ⟨wr.heap.size, 0, none⟩ 1 1 [.int .i32 f, .int .i32 t, .int .i64 h] rfl rfl (World.news_of_block (cs := #[.int .i32 f, .int .i32 t, .int .i64 h]) (t := 37) (fr := (0, 0)) (heap_new wr _)) (by simp [Value.oneCell']) (by omega) hm1 hm2 (by simp; omega) (wr.heap.size + 1) (by simp) ?_; intro g9 cap9 w9 hown9 hgrow9 hat9 hlt9)
      go_roundw
      case rel =>
        refine ⟨k + 1, by omega, by have := unhide HJZ; congr 1; omega, by rw [unhide HS2]; exact hown9, ?_⟩
        exact (hb.alloc (by omega) _).trans (below_own hgrow9 (by simp; omega) (own_block hown))
      case measure => simp [intOf]
    · have hz9 : ¬ (0 : Int) ≤ (l.length : Int) - (k : Int) - 1 := by omega
      obtain rfl : k = l.length := by omega
      rw [List.take_of_length_le (by simp)] at hown
      have HX := hide (Ow.tab (B := w1.heap.size) (l := l.reverse) (by unfold Ow; rw [List.length_reverse]; exact hown))
      have HV1 := hide (((unhide HTv).below g1.below).below hb)
      have hbb := below_on2 g1.below hb
      obtain ⟨xa, xc, hxv⟩ : ∃ xa xc, u3 = Value.slice xa l.length xc := by
        rcases hown.2 with ⟨hv, h0⟩ | ⟨g', cap', cur, hv, _⟩
        · exact ⟨none, 0, by rw [hv, h0]⟩
        · exact ⟨_, cap', hv⟩
      subst hxv
      clear hown hb
      go_wp2_with (first
        | (go_at_call 15; refine (unhide HB1 _ (unhide HV1)).mono ?_; rintro e w2 ⟨u1, rfl, HU1, hb2⟩; have HV2 := hide ((unhide HV1).below hb2); have HX2 := hide ((unhide HX).below hb2); replace hbb := below_on2 hbb hb2; clear HB1 HV1)
        | (go_at_call 15; refine (unhide HB2 _ _ (unhide HX2)).mono ?_; rintro e w3 ⟨u2, rfl, HU2, hb3⟩; have HV3 := hide ((unhide HV2).below hb3); have HU13 := hide ((unhide HU1).below hb3); replace hbb := below_on2 hbb hb3)
        | (go_at_call 17; refine (unhide HS _ _ _ (unhide HU13) (unhide HV3)).mono ?_; rintro e w4 ⟨rfl, g4⟩; replace hbb := below_gr2 hbb g4; have HV4 := hide (g4.tab (unhide HV3)); have HU24 := hide (g4.tab (unhide HU2)); clear HU13)
        | (go_at_call 17; refine (unhide HS _ _ _ (unhide HU24) (unhide HV4)).mono ?_; rintro e w5 ⟨rfl, g5⟩; replace hbb := below_gr2 hbb g5)
        | (go_at_call 8; refine (unhide HA _).mono ?_; rintro e w7 ⟨rfl, hb7⟩; replace hbb := below_on2 hbb hb7))
      go_ret
      exact ⟨rfl, hbb⟩

/-- The law, of any spans. -/
theorem least_law (v : Value) (l : List Sp) (w : World) (hT : Tab w v l) :
    Calls Try.prog 6 #[v] w fun e w' => e = .returned (.bool true) ∧ Below w.heap.size w w' := by
  by_cases h : 200 < l.length ∨ chk l = 20
  · exact least_no v l w hT h
  · exact least_yes v l w hT (by omega) ((chk_two l).resolve_right fun h2 => h (.inr h2))
end Go.Proofs.Ytnlkefdicpeemaa
