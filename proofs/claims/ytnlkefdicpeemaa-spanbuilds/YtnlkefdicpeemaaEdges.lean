/- edgesOf: where spans begin and end, rising, each once. -/
import Derived.Test.YtnlkefdicpeemaaSortS
import Derived.Test.YtnlkefdicpeemaaCompact
import Derived.Test.YtnlkefdicpeemaaPlain
import Derived.Deep.AppendLies
namespace Go.Proofs.Ytnlkefdicpeemaa
open Go.RowKit
open Go.Sort (Holds ltInt PermIn SortedIn)

theorem begin_gr (f t h : Int) (w : World) :
    Calls Try.prog 30 #[.agg #[.int .i32 f, .int .i32 t, .int .i64 h]] w fun e w' => e = .returned (.int .i32 f) ∧ Gr w w' :=
  (begin_any f t h w).mono fun e w' ⟨he, hw⟩ => ⟨he, by rw [hw]; exact Gr.one _ _⟩
theorem own_gr {B e size n : Nat} {v : Value} {xs : List Value} {w w2 : World} (h : w.ownsRow B e size v n xs) (hg : Gr w w2) : w2.ownsRow B e size v n xs :=
  h.kept (row := none) ⟨hg.below.os, hg.below.tape, hg.below.output, hg.size, fun k hk _ => hg.below.block k hk⟩ (by cases hv : v.ownBlock <;> simp)
theorem frozen_own {w : World} {B e g n cap : Nat} {xs : List Value} (h : w.ownsRow B e 1 (.slice (some ⟨g, 0, none⟩) n cap) n xs) (j : Nat) : w.frozen? ⟨g, j, none⟩ = false := by
  rcases h.2 with ⟨hv, _⟩ | ⟨g2, cap2, cur, hv, _, hb, _⟩
  · cases hv
  · cases hv
    simp [World.frozen?, hb]
theorem add_zero (g j : Nat) : (⟨g, 0, none⟩ : Addr).add j = ⟨g, j, none⟩ := by unfold Addr.add; split <;> simp_all

/-- The edges of spans, as they come. -/
def edsTo (l : List Sp) : Nat → List Int
  | 0 => []
  | p + 1 => edsTo l p ++ [if p < l.length then (l.getD p sp0).f else (l.getD (p - l.length) sp0).t + 1]
theorem edsTo_length (l : List Sp) (p : Nat) : (edsTo l p).length = p := by induction p with
  | zero => rfl
  | succ p ih => simp [edsTo, ih]
theorem eds_mem (l : List Sp) (p : Nat) (x : Int) : x ∈ edsTo l p ↔ ∃ q, q < p ∧ x = if q < l.length then (l.getD q sp0).f else (l.getD (q - l.length) sp0).t + 1 := by
  induction p with
  | zero => simp [edsTo]
  | succ p ih =>
    simp only [edsTo, List.mem_append, List.mem_singleton, ih]
    constructor
    · rintro (⟨q, h1, h2⟩ | h)
      · exact ⟨q, by omega, h2⟩
      · exact ⟨p, by omega, h⟩
    · rintro ⟨q, h1, h2⟩
      rcases Nat.lt_succ_iff_lt_or_eq.1 h1 with h3 | rfl
      · exact .inl ⟨q, h3, h2⟩
      · exact .inr h2
theorem getD_mem (l : List Sp) (k : Nat) (h : k < l.length) : l.getD k sp0 ∈ l := by simp [List.getD, h]
theorem mem_getD (l : List Sp) (s : Sp) (h : s ∈ l) : ∃ k, k < l.length ∧ l.getD k sp0 = s := by
  obtain ⟨k, hk, he⟩ := List.getElem_of_mem h
  exact ⟨k, hk, by simp [List.getD, hk, he]⟩
theorem eds_all (l : List Sp) (x : Int) : x ∈ edsTo l (2 * l.length) ↔ ∃ s, s ∈ l ∧ (x = s.f ∨ x = s.t + 1) := by
  rw [eds_mem]
  constructor
  · rintro ⟨q, h1, h2⟩
    by_cases hq : q < l.length
    · rw [if_pos hq] at h2; exact ⟨_, getD_mem l q hq, .inl h2⟩
    · rw [if_neg hq] at h2; exact ⟨_, getD_mem l (q - l.length) (by omega), .inr h2⟩
  · rintro ⟨s, hs, hx⟩
    obtain ⟨k, hk, rfl⟩ := mem_getD l s hs
    rcases hx with hx | hx
    · exact ⟨k, by omega, by rw [if_pos hk]; exact hx⟩
    · exact ⟨k + l.length, by omega, by rw [if_neg (by omega), Nat.add_sub_cancel]; exact hx⟩

/-- The edges so far, in memory of the call's own; the two functions lie where they lay. -/
def Eg (B : Nat) (w0 : World) (fb : Nat) (es : List Int) (v : Value) (w : World) : Prop :=
  ∃ g cap, v = .slice (some ⟨g, 0, none⟩) es.length cap ∧ w.ownsRow B 21 1 v es.length (es.map (Value.int .i32)) ∧ Below B w0 w ∧ g ≠ fb ∧ fb < w.heap.size ∧ B ≤ w.heap.size ∧
    w.cell? ⟨fb, 0, none⟩ = some (.func (.func 30) #[] #[]) ∧ w.cell? ⟨fb, 1, none⟩ = some (.func (.func 31) #[] #[])

theorem Eg.push {B : Nat} {w0 wa w1 : World} {fb : Nat} {es : List Int} {g cap g1 cap1 : Nat} {z : Int}
    (hown : wa.ownsRow B 21 1 (.slice (some ⟨g, 0, none⟩) es.length cap) es.length (es.map (Value.int .i32))) (hb : Below B w0 wa) (hne : g ≠ fb) (hfb : fb < wa.heap.size) (hB : B ≤ wa.heap.size)
    (c0 : wa.cell? ⟨fb, 0, none⟩ = some (.func (.func 30) #[] #[])) (c1 : wa.cell? ⟨fb, 1, none⟩ = some (.func (.func 31) #[] #[]))
    (hown1 : w1.ownsRow B 21 1 (.slice (some ⟨g1, 0, none⟩) (es.length + 1) cap1) (es.length + 1) (es.map (Value.int .i32) ++ [.int .i32 z]))
    (hgrow : wa.grownBy w1 (Value.slice (some ⟨g, 0, none⟩) es.length cap).ownBlock) (hat : (Value.slice (some ⟨g, 0, none⟩) es.length cap).ownBlock = some g1 ∨ g1 = wa.heap.size) :
    Eg B w0 fb (es ++ [z]) (.slice (some ⟨g1, 0, none⟩) (es.length + 1) cap1) w1 := by
  have hro : (Value.slice (some ⟨g, 0, none⟩) es.length cap).ownBlock = some g := rfl
  rw [hro] at hgrow hat
  refine ⟨g1, cap1, by simp, by simpa using hown1, hb.grown hgrow hB fun k hk => ?_, ?_, Nat.lt_of_lt_of_le hfb hgrow.size, Nat.le_trans hB hgrow.size, ?_, ?_⟩
  · cases hk; exact (hown.lt g rfl).1
  · rcases hat with h | h
    · cases h; exact hne
    · omega
  · rw [hgrow.cell_far _ hfb (by simp; omega)]; exact c0
  · rw [hgrow.cell_far _ hfb (by simp; omega)]; exact c1

set_option maxHeartbeats 1600000 in
theorem edges_some (b o c : Nat) (l : List Sp) (w : World) (hl : l.length ≤ 200) (hm : ∀ k, k < l.length → -2147483648 ≤ (l.getD k sp0).t + 1 ∧ (l.getD k sp0).t + 1 ≤ 2147483647)
    (hsort : SortDoes (edsTo l (2 * l.length)).toArray) (a : Option Addr) (ha : 0 < l.length → a = some ⟨b, o, none⟩) (hc : ∀ j, j < l.length →
    w.cell? ⟨b, o + j * 3, none⟩ = some (.int .i32 (l.getD j sp0).f) ∧ w.cell? ⟨b, o + j * 3 + 1, none⟩ = some (.int .i32 (l.getD j sp0).t) ∧ w.cell? ⟨b, o + j * 3 + 2, none⟩ = some (.int .i64 (l.getD j sp0).h)) :
    Calls Try.prog 24 #[.slice a l.length c] w fun e w' => ∃ (g cap : Nat) (zs : List Int), e = .returned (.slice (some ⟨g, 0, none⟩) zs.length cap) ∧ (∀ j, j < zs.length → w'.cell? ⟨g, j, none⟩ = some (.int .i32 (zs.getD j 0))) ∧ zs.Pairwise (· < ·) ∧ zs.length ≤ 2 * l.length ∧ (∀ x, x ∈ zs ↔ ∃ s, s ∈ l ∧ (x = s.f ∨ x = s.t + 1)) ∧ Below w.heap.size w w' := by
  have HC := hide hc
  have HM := hide hm
  have HS := hide hsort
  clear hc hm hsort
  obtain ⟨i0, hi, hz0', hz1, hz2⟩ := info_parts elem_info
  have hml : 2 * l.length ≤ maxLen := by unfold maxLen; omega
  go_enter Try.func24, Try.ntmps24
  go_wp2_with (refine wpList_make_own _ rfl _ _ 44 rfl w.heap.size 21 i0 (.int .i32 0) 1 Try.underlying44 hi hz0' hz1 .i64 .i64 _ (2 * l.length) rfl rfl (by omega) (by rw [hz2]; omega) hml (Nat.le_refl _) ?_; intro w1 hown1 hgrow1)
  have hb1 : Below w.heap.size w w1 := (Below.refl _ _).grown hgrow1 (Nat.le_refl _) (by intro k h; cases h)
  have hlt1 := (hown1.lt w.heap.size rfl).2
  obtain ⟨fb, hfb⟩ : ∃ fb, fb = w1.heap.size := ⟨_, rfl⟩
  have EG0 : Eg w.heap.size w fb (edsTo l 0) (.slice (some ⟨w.heap.size, 0, none⟩) 0 (2 * l.length)) (w1.alloc (.cells #[.func (.func 30) #[] #[], .func (.func 31) #[] #[]] 52)) := by
    refine ⟨w.heap.size, 2 * l.length, rfl, hown1.alloc _, hb1.alloc (by omega) _, by omega, by rw [World.size_alloc]; omega, by rw [World.size_alloc]; omega, ?_, ?_⟩
    · rw [hfb, World.cell?_alloc_mark]; rfl
    · rw [hfb, World.cell?_alloc_mark]; rfl
  have EG := hide EG0
  rw [← hfb]
  clear EG0 hown1 hgrow1 hb1 hlt1 hfb
  generalize w1.alloc (.cells #[.func (.func 30) #[] #[], .func (.func 31) #[] #[]] 52) = w2 at *
  go_loopw [3, 14] (fun v x wr => ∃ j : Nat, x = .int .i64 j ∧ j ≤ 2 ∧ Hid (Eg w.heap.size w fb (edsTo l (j * l.length)) v wr)) (fun _ x _ => 2 - (intOf x).toNat)
  case atStart => exact ⟨0, rfl, by omega, by rw [Nat.zero_mul]; exact EG⟩
  case round =>
    clear EG
    obtain ⟨j, hxj, hj, EJ⟩ := hrel
    by_cases hj2 : j < 2
    · obtain ⟨g0, cap0, hv0, hown0, hbl0, hne0, hfb0, hBs0, d0, d1⟩ := unhide EJ
      by_cases hj1 : j = 0
      · subst hj1
        have hxj2 := hxj.trans (show Value.int .i64 ((0 : Nat) : Int) = Value.int .i64 0 from rfl)
        clear hxj
        subst hxj2
        have EG := EJ
        rw [Nat.zero_mul] at EG
        clear EJ hown0 hbl0 hne0
        subst hv0
        go_wp2
        clear d0 d1
        go_loopw [3, 20] (fun v x ws => ∃ k : Nat, k ≤ l.length ∧ x = .int .i64 k ∧ Hid (Eg w.heap.size w fb (edsTo l (k)) v ws)) (fun _ x _ => l.length - (intOf x).toNat)
        case atStart => exact ⟨0, Nat.zero_le _, rfl, EG⟩
        case round =>
          obtain ⟨k, hk, rfl, EK⟩ := hrel
          by_cases hlt : k < l.length
          · have hzl : (k : Int) < (l.length : Int) := by omega
            have hz0 : (0 : Int) ≤ (k : Int) := by omega
            have hae := ha (by omega)
            subst hae
            obtain ⟨g, cap, hv, hown, hbl, hne, hfb, hBs, c0, c1⟩ := unhide EK
            obtain ⟨g1, g2, g3⟩ := unhide HC k hlt
            replace g1 := (hbl.cell (cell_lt g1)).trans g1
            replace g2 := (hbl.cell (cell_lt g2)).trans g2
            replace g3 := (hbl.cell (cell_lt g3)).trans g3
            have hm := unhide HM k hlt
            have hst : edsTo l (k) ++ [(l.getD k sp0).f] = edsTo l (k + 1) := by
              show _ = edsTo l (k + 1); simp only [edsTo]; rw [if_pos hlt]
            have hle := edsTo_length l (k)
            generalize l.getD k sp0 = s at *
            obtain ⟨f, t, h⟩ := s
            dsimp only at g1 g2 g3 hm hst
            have HST := hide hst
            clear hst
            have hm1 : -2147483648 ≤ t + 1 := by omega
            have hm2 : t + 1 ≤ 2147483647 := by omega
            generalize edsTo l (k) = es at *
            have hlen : es.length + 1 ≤ maxLen := by unfold maxLen; omega
            have hby : (es.length + 1) * 4 ≤ 140737488355328 := by omega
            clear hle
            subst hv
            have hownA := hown.alloc (.cells #[.int .i32 f, .int .i32 t, .int .i64 h] 37)
            have hblA := hbl.alloc hBs (.cells #[.int .i32 f, .int .i32 t, .int .i64 h] 37)
            have grA := (Gr.refl wr).alloc (.cells #[.int .i32 f, .int .i32 t, .int .i64 h] 37)
            clear EK
            go_wp2_with (first
              | (go_at_call 30; refine (begin_gr f t h _).mono ?_; rintro e w2 ⟨rfl, hg2⟩; have hown2 := own_gr hownA hg2; have gr2 := grA.trans hg2)
              | (at_builtin; refine wpList_append_lies _ rfl _ _ 44 rfl w.heap.size 21 i0 _ 1 4 Try.underlying44 hi hz0' hz1 hz2 rfl (by omega) _ _ _ rfl (hown2.alloc _) ⟨w2.heap.size, 0, none⟩ 1 1 [.int .i32 (f)] rfl rfl (cell_one_new _ _ _) (by simp [Value.oneCell']) (by omega) hlen hby (by have := gr2.size; simp; omega) (w2.heap.size + 1) (by simp) ?_; intro g9 cap9 w9 hown9 hgrow9 hat9 hlt9))
            have gr3 := gr2.alloc (.cells #[.int .i32 (f)] 21)
            have EN := Eg.push (hown2.alloc _) (hbl.trans (gr3.below.mono hBs)) hne (Nat.lt_of_lt_of_le hfb gr3.size) (Nat.le_trans hBs gr3.size) (gr3.cell c0) (gr3.cell c1) hown9 hgrow9 (hat9.imp (fun h => h) (fun h => by rw [World.size_alloc]; exact h))
            rw [unhide HST] at EN
            clear hown9 hgrow9 hat9 hlt9 hown2 hlen hby hown hownA
            go_wp2
            go_roundw
            case rel =>
              exact ⟨k + 1, by omega, by go_num, hide EN⟩
            case measure => simp [intOf]; omega
          · have hzl : ¬ (k : Int) < (l.length : Int) := by omega
            have EN := EK
            rw [show k = l.length by omega] at EN
            go_wp2
            go_roundw
            case rel => exact ⟨1, by go_num, by omega, hide (by rw [show 1 * l.length = l.length by omega]; exact unhide EN)⟩
            case measure => simp [intOf]

      · obtain rfl : j = 1 := by omega
        have hxj2 := hxj.trans (show Value.int .i64 ((1 : Nat) : Int) = Value.int .i64 1 from rfl)
        clear hxj
        subst hxj2
        have EG := EJ
        rw [Nat.one_mul] at EG
        clear EJ hown0 hbl0 hne0
        subst hv0
        go_wp2
        clear d0 d1
        go_loopw [3, 20] (fun v x ws => ∃ k : Nat, k ≤ l.length ∧ x = .int .i64 k ∧ Hid (Eg w.heap.size w fb (edsTo l (l.length + k)) v ws)) (fun _ x _ => l.length - (intOf x).toNat)
        case atStart => exact ⟨0, Nat.zero_le _, rfl, EG⟩
        case round =>
          obtain ⟨k, hk, rfl, EK⟩ := hrel
          by_cases hlt : k < l.length
          · have hzl : (k : Int) < (l.length : Int) := by omega
            have hz0 : (0 : Int) ≤ (k : Int) := by omega
            have hae := ha (by omega)
            subst hae
            obtain ⟨g, cap, hv, hown, hbl, hne, hfb, hBs, c0, c1⟩ := unhide EK
            obtain ⟨g1, g2, g3⟩ := unhide HC k hlt
            replace g1 := (hbl.cell (cell_lt g1)).trans g1
            replace g2 := (hbl.cell (cell_lt g2)).trans g2
            replace g3 := (hbl.cell (cell_lt g3)).trans g3
            have hm := unhide HM k hlt
            have hst : edsTo l (l.length + k) ++ [(l.getD k sp0).t + 1] = edsTo l (l.length + (k + 1)) := by
              show _ = edsTo l (l.length + k + 1); simp only [edsTo]; rw [if_neg (by omega), Nat.add_sub_cancel_left]
            have hle := edsTo_length l (l.length + k)
            generalize l.getD k sp0 = s at *
            obtain ⟨f, t, h⟩ := s
            dsimp only at g1 g2 g3 hm hst
            have HST := hide hst
            clear hst
            have hm1 : -2147483648 ≤ t + 1 := by omega
            have hm2 : t + 1 ≤ 2147483647 := by omega
            generalize edsTo l (l.length + k) = es at *
            have hlen : es.length + 1 ≤ maxLen := by unfold maxLen; omega
            have hby : (es.length + 1) * 4 ≤ 140737488355328 := by omega
            clear hle
            subst hv
            have hownA := hown.alloc (.cells #[.int .i32 f, .int .i32 t, .int .i64 h] 37)
            have hblA := hbl.alloc hBs (.cells #[.int .i32 f, .int .i32 t, .int .i64 h] 37)
            have grA := (Gr.refl wr).alloc (.cells #[.int .i32 f, .int .i32 t, .int .i64 h] 37)
            clear EK
            go_wp2_with (first
              | (go_at_call 31; refine (end_gr f t h _ hm1 hm2).mono ?_; rintro e w2 ⟨rfl, hg2⟩; have hown2 := own_gr hownA hg2; have gr2 := grA.trans hg2)
              | (at_builtin; refine wpList_append_lies _ rfl _ _ 44 rfl w.heap.size 21 i0 _ 1 4 Try.underlying44 hi hz0' hz1 hz2 rfl (by omega) _ _ _ rfl (hown2.alloc _) ⟨w2.heap.size, 0, none⟩ 1 1 [.int .i32 (t + 1)] rfl rfl (cell_one_new _ _ _) (by simp [Value.oneCell']) (by omega) hlen hby (by have := gr2.size; simp; omega) (w2.heap.size + 1) (by simp) ?_; intro g9 cap9 w9 hown9 hgrow9 hat9 hlt9))
            have gr3 := gr2.alloc (.cells #[.int .i32 (t + 1)] 21)
            have EN := Eg.push (hown2.alloc _) (hbl.trans (gr3.below.mono hBs)) hne (Nat.lt_of_lt_of_le hfb gr3.size) (Nat.le_trans hBs gr3.size) (gr3.cell c0) (gr3.cell c1) hown9 hgrow9 (hat9.imp (fun h => h) (fun h => by rw [World.size_alloc]; exact h))
            rw [unhide HST] at EN
            clear hown9 hgrow9 hat9 hlt9 hown2 hlen hby hown hownA
            go_wp2
            go_roundw
            case rel =>
              exact ⟨k + 1, by omega, by go_num, hide EN⟩
            case measure => simp [intOf]; omega
          · have hzl : ¬ (k : Int) < (l.length : Int) := by omega
            have EN := EK
            rw [show l.length + k = 2 * l.length by omega] at EN
            go_wp2
            go_roundw
            case rel => exact ⟨2, by go_num, by omega, hide (by rw [show 2 * l.length = 2 * l.length by omega]; exact unhide EN)⟩
            case measure => simp [intOf]

    · obtain rfl : j = 2 := by omega
      have hxj2 := hxj.trans (show Value.int .i64 ((2 : Nat) : Int) = Value.int .i64 2 from rfl)
      clear hxj
      subst hxj2
      obtain ⟨g, cap, hv, hown, hbl, hne, hfb, hBs, c0, c1⟩ := unhide EJ
      have hR : Rw wr g 0 (edsTo l (2 * l.length)).toArray wr := by
        subst hv
        refine Rw.start (fun i hi => ?_) (hown.lt g rfl).2
        have hi' : i < (edsTo l (2 * l.length)).length := by simpa using hi
        refine ⟨?_, by rw [Nat.zero_add]; exact frozen_own hown i⟩
        have := hown.cells (g := g) rfl i (.int .i32 (edsTo l (2 * l.length))[i]) (by simp [hi'])
        rw [add_zero g i] at this
        rw [Nat.zero_add, this, getElem!_pos _ i hi]
        simp
      have hgB : w.heap.size ≤ g := by subst hv; exact (hown.lt g rfl).1
      have hcp : (edsTo l (2 * l.length)).length ≤ cap := by
        subst hv
        rcases hown.2 with ⟨h1, _⟩ | ⟨_, _, _, h1, _, _, h2, _⟩
        · cases h1
        · cases h1; exact h2
      have hsz : (edsTo l (2 * l.length)).length ≤ 400 := by rw [edsTo_length]; omega
      have HEM := hide (eds_all l)
      have HLN := hide (edsTo_length l (2 * l.length))
      generalize edsTo l (2 * l.length) = es at *
      have hsd : es.toArray.size = es.length := by simp
      have hsc := unhide HS g 0 cap wr wr hR
      rw [hsd] at hsc
      have HSC := hide hsc
      have HBL := hide hbl
      clear hsc hown hbl hne hfb c0 c1 hR EJ HS hsd
      subst hv
      have HCO : Hid (∀ (W : World) (d : Array Int), Rw wr g 0 d W → PermIn 0 es.length es.toArray d → SortedIn ltInt 0 es.length d → Calls Try.prog 33 #[.slice (some ⟨g, 0, none⟩) es.length cap] W fun e w' => ∃ zs : List Int, e = .returned (.slice (some ⟨g, 0, none⟩) zs.length cap) ∧ Rw wr g 0 zs.toArray w' ∧ Once es.toArray zs) := fun W d hR hp hs => by
        have hds : d.size = es.length := by rw [hp.1]; simp
        have hper : d.toList.Perm es := by
          have := hp.2.2
          rw [← hds] at this
          simp only [Array.extract_size] at this
          rw [show (es.toArray.extract 0 d.size) = es.toArray by rw [hds]; simp] at this
          exact this
        have hmem : ∀ zs, Once d zs → Once es.toArray zs := fun zs h => ⟨⟨h.1.1, by have := h.1.2; simp; omega⟩, fun x => (h.2 x).trans (hper.mem_iff)⟩
        have hcc : Calls Try.prog 33 #[.slice (some ⟨g, 0, none⟩) d.size cap] W fun e w' => ∃ zs : List Int, e = .returned (.slice (some ⟨g, 0, none⟩) zs.length cap) ∧ Rw wr g 0 zs.toArray w' ∧ Once d zs := by
          by_cases h2 : d.size < 2
          · exact compact_small g 0 cap d wr W hR h2
          · refine compact_more g 0 cap d wr W hR (by omega) (by omega) (by omega) fun i j h3 h4 => ?_
            have := hs i j (Nat.zero_le _) h3 (by omega)
            simp [ltInt] at this
            exact this
        rw [hds] at hcc
        exact hcc.mono fun e w' ⟨zs, h1, h2, h3⟩ => ⟨zs, h1, h2, hmem zs h3⟩
      go_wp2_with (first
        | (go_at_call 32; refine (unhide HSC).mono ?_; rintro e w3 ⟨rfl, d, hRd, hpd, hsd⟩)
        | (go_at_call 33; refine (unhide HCO _ d hRd hpd hsd).mono ?_; rintro e w4 ⟨zs, rfl, hRz, hoz⟩))
      go_ret
      refine ⟨g, cap, zs, rfl, fun j hj => ?_, hoz.1.1, by have := hoz.1.2; have := unhide HLN; simp at *; omega, fun x => ?_, (unhide HBL).trans (hRz.below.mono hgB)⟩
      · have := hRz.cell (i := j) (by simpa using hj)
        rw [Nat.zero_add] at this
        rw [this, getElem!_pos _ j (by simpa using hj)]
        simp [List.getD, hj]
      · rw [hoz.2 x]; exact unhide HEM x
end Go.Proofs.Ytnlkefdicpeemaa
