/- The landed Line. -/
import Derived.Test.YtoaoplfbnjajiaaMy20
import Derived.Test.YtoaoplfbnjajiaaMt20
import Derived.Maps.AppendAt
namespace Go.Proofs.Ytoaoplfbnjajiaa
open Go.RowKit
attribute [local go_sem] Oper.semAt_some

theorem tx_qr {B n : Nat} {A C : World} {v : Value} {ps : List ByteArray} (h : Tx B v ps A) (k : Qr n A C) : Tx B v ps C := by
  obtain ⟨h1, h2⟩ := h
  refine ⟨h1, ?_⟩
  rcases h2 with h2 | ⟨g, cap, cur, e1, e2, e3, e4⟩
  · exact .inl h2
  · exact .inr ⟨g, cap, cur, e1, e2, k.same _ _ e3 rfl, e4⟩
theorem tx_low {B B' : Nat} {A : World} {v : Value} {ps : List ByteArray} (hB : B' ≤ B) (h : Tx B v ps A) : Tx B' v ps A := by
  obtain ⟨h1, h2⟩ := h
  refine ⟨h1, ?_⟩
  rcases h2 with h2 | ⟨g, cap, cur, e1, e2, e3⟩
  · exact .inl h2
  · exact .inr ⟨g, cap, cur, e1, Nat.le_trans hB e2, e3⟩
theorem kr_row {n B : Nat} {A C : World} {v : Value} {ps : List ByteArray} (h : Tx B v ps A) (hg : A.grownBy C v.ownBlock) (hB : n ≤ B) (hA : n ≤ A.heap.size) : Kr n A C :=
  Ke.grown hg hA fun k e => by
    rcases h.2 with ⟨hv, _⟩ | ⟨g, cap, cur, e1, e2, e3, e4⟩
    · rw [hv] at e; cases e
    · rw [e1] at e
      cases e
      exact ⟨Nat.le_trans hB e2, fun o ho => by rw [e3] at ho; cases ho; rfl⟩
theorem okT_24 {l : List Ty} (h : okT l = true) : l.length ≤ 24 := by
  unfold okT at h
  rw [Bool.and_eq_true] at h
  exact of_decide_eq_true h.1
set_option maxRecDepth 100000 in
set_option maxHeartbeats 3200000 in
theorem line_any (v : Value) (l : List Ty) (n : ByteArray) (w : World) (hV : TysV w v l) : Calls Try.prog 19 #[v, .string n] w fun e w' => ∃ u, e = .returned u ∧ Tx w.heap.size u (lineT l n) w' ∧ Below w.heap.size w w' := by
  have CM := hide (may_any v l w hV)
  have HV := hide hV
  obtain ⟨va, vc, rfl⟩ := hV.shape
  clear hV
  cases hk : okT l
  · rw [hk] at CM
    rw [line_bad hk]
    clear hk
    go_enter Try.func19, Try.ntmps19
    go_wp2_with (go_at_call 24; refine (unhide CM).mono ?_; rintro e w1 ⟨rfl, b1⟩)
    go_ret
    exact ⟨_, rfl, Tx.nil _ _, b1⟩
  rw [hk] at CM
  have h24 := okT_24 hk
  have HK := hide hk
  clear hk
  obtain ⟨i0, hi0, hz0, hz1, hz2⟩ := info_parts str_info
  refine (callsIn_wide (n := 5)).1 ?_
  refine callsIn_of_wp_marks Try.func19 rfl trivial ?_ rfl
  simp only [Try.ntmps19, List.size_toArray, List.length_cons, List.length_nil, Nat.reduceAdd, Nat.reduceSub, Array.replicate_succ, Array.replicate_zero, List.push_toArray, List.append_toArray, List.nil_append, List.cons_append]
  gi_wp2_with (first
    | (refine ⟨trivial, ?_⟩; gi_at_call 29; refine (callsIn_wide.2 (mkline_any _ _ _ _ _)).mono ?_; rintro e w2 ⟨rfl, rfl⟩)
    | (refine ⟨trivial, ?_⟩; gi_at_call 24; refine (callsIn_wide.2 (unhide CM)).mono ?_; rintro e w1 ⟨rfl, b1⟩))
  have hs1 := b1.size
  obtain ⟨W0, hW0⟩ : ∃ W0, (((w1.alloc (.cells #[.slice none 0 0] 36)).alloc (.cells #[.slice va l.length vc] 22)).alloc (.cells #[.string n] 9)) = W0 := ⟨_, rfl⟩
  rw [hW0]
  have s0 : W0.heap.size = w1.heap.size + 3 := by rw [← hW0]; simp
  have B0 : Below w1.heap.size w1 W0 := by rw [← hW0]; exact (((Below.refl _ w1).alloc (by simp) _).alloc (by simp) _).alloc (by simp; omega) _
  have x0 : Boxed W0 w1.heap.size 36 (.slice none 0 0) := by rw [← hW0]; exact ((Boxed.new _ _ _).alloc _).alloc _
  have x1 : Boxed W0 (w1.heap.size + 1) 22 (.slice va l.length vc) := by rw [← hW0]; exact (box_at (by simp)).alloc _
  have x2 : Boxed W0 (w1.heap.size + 1 + 1) 9 (.string n) := by rw [← hW0]; exact (box_at (by simp))
  clear hW0
  have hI : ∀ (s : List Ty) (A C : World), (∃ u, Boxed A w1.heap.size 36 u ∧ Tx w1.heap.size u (s.map (·.nam)) A ∧ Below w1.heap.size w1 A) → Qr W0.heap.size A C →
      (∃ u, Boxed C w1.heap.size 36 u ∧ Tx w1.heap.size u (s.map (·.nam)) C ∧ Below w1.heap.size w1 C) := fun s A C ⟨u, h1, h2, h3⟩ k => ⟨u, k.same _ _ h1 rfl, tx_qr h2 k, h3.trans (k.below.mono (by omega))⟩
  refine wpIn_up 5 (w1.heap.size + 1) (w1.heap.size + 1 + 1) w1.heap.size l.length (by omega) (.slice va l.length vc) l n rfl rfl x1 x2.cell (by omega) (fun W' h => (unhide HV).below (b1.trans ((B0.trans h).mono hs1)))
    (fun s A => ∃ u, Boxed A w1.heap.size 36 u ∧ Tx w1.heap.size u (s.map (·.nam)) A ∧ Below w1.heap.size w1 A)
    (fun _ _ => False)
    hI (fun s A C h k => h)
    ⟨_, x0, Tx.nil _ _, B0⟩
    (fun x => #[.slice va l.length vc, .string n, undef, undef, .slice none 0 0, .pointer (some ⟨w1.heap.size, 0, none⟩), undef, .slice va l.length vc, .bool true, .bool false, .slice va l.length vc, .string n, .func (.func 36) #[] #[.pointer (some ⟨w1.heap.size + 1, 0, none⟩), .pointer (some ⟨w1.heap.size + 1 + 1, 0, none⟩)], aggV x, undef, undef, undef, undef, undef, undef]) (fun _ => by simp)
    (fun pre x W _ hw => (wlk_few (unhide HK) hw).1) ?round ?done ?stop
  case round =>
    intro L pre x W hL hLW hi hw
    have hpl := (wlk_few (unhide HK) hw).1
    have HLW := hide hLW
    clear hLW
    unfold aggV
    gi_wp2
    have hLW := unhide HLW
    refine ⟨Ke.one _ _ (by omega), fun r r' hr => ?_⟩
    have hi2 := hI _ _ _ hi ((Ke.one plainO (A := W) (.cells #[.string x.nam, .string x.abv, .int .i64 x.syn, .int .i64 x.rul, .bool x.sgl, .bool x.cls] 26) (B := W0.heap.size) (by omega)).trans (Ke.put (p := plainO) (o := .loop r) (.loop r') (by omega) hr rfl))
    have HX := hide (bt_put (r' := r') (show Bt W.heap.size x _ from heap_new W _) hr)
    generalize (W.alloc (.cells #[.string x.nam, .string x.abv, .int .i64 x.syn, .int .i64 x.rul, .bool x.sgl, .bool x.cls] 26)).putObj L (.loop r') = W2 at *
    obtain ⟨u, y0, ht, hb⟩ := hi2
    have hc := y0.cell
    have q0 := (unhide HX).cells.1
    have hB := hb.size
    have hrow := Tx.own (N := pre.length) (by simp) ht
    have hm1 : pre.length + 1 ≤ maxLen := by unfold maxLen; omega
    have hm2 : (pre.length + 1) * 16 ≤ 140737488355328 := by omega
    have HT := hide ht
    clear ht hi
    gi_wp2_with (gi_at_builtin; refine wpListIn_append_own _ rfl _ _ 36 rfl w1.heap.size 9 i0 (.string ⟨#[]⟩) 1 16 Try.underlying36 hi0 hz0 hz1 hz2 rfl (by decide) _ _ _ rfl (hrow.alloc _) ⟨W2.heap.size, 0, none⟩ 1 1 [.string x.nam] rfl rfl (cell_one_new _ _ _) (by simp [Value.oneCell']) hm1 hm2 (by simp; omega) ?_; intro v' w3 hown' hgrow _; obtain ⟨g', cap', rfl⟩ := ownsRow_succ hown'; obtain ⟨hv1, hv2, hr2, hk2, hb2⟩ := y0.appended (by decide) hrow hB (Nat.le_refl _) hown' hgrow; have hc1 := hv1.cell; have hf1 := hv1.frozen)
    refine ⟨((Ke.one _ _ hB).trans (kr_row ((unhide HT).below (Below.one W2 _)) hgrow (Nat.le_refl _) (by simp; omega))).trans (Ke.set (Nat.le_refl _) hv1 rfl), _, hv2, ?_, hb.trans hb2⟩
    rw [List.map_append]
    exact Tx.push (N := pre.length) (by simp) hr2
  case done =>
    rintro D xs W hD hw ⟨u, y0, ht, hb⟩ hK
    have hc := y0.cell
    have HT := hide (tx_low hs1 ht)
    clear ht
    gi_wp2
    refine ⟨by simp, .inl ⟨_, _, rfl, run_takeDeferred hK, ?_⟩⟩
    refine ⟨_, results_tmp rfl _ _ _, _, rfl, ?_, (b1.trans (hb.mono hs1)).trans (belowK_b (w := w) (Nat.le_refl _) W D _ _ (by omega) hK rfl rfl)⟩
    rw [wlk_line (unhide HK) hw]
    exact ownsRow_putObj (unhide HT) _ hK rfl
  case stop => exact fun _ _ _ _ _ _ h => h.elim
end Go.Proofs.Ytoaoplfbnjajiaa
