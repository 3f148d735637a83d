/- The landed meets: is one of some names in a line? -/
import Derived.Test.YtoaoplfbnjajiaaEn20
namespace Go.Proofs.Ytoaoplfbnjajiaa
open Go.RowKit
attribute [local go_sem] Oper.semAt_some

def metB (l : List Ty) (n : ByteArray) (ns : List ByteArray) : Bool := (lineT l n).any fun y => hasT ns y
theorem met_yes {l : List Ty} (hk : okT l = true) {n : ByteArray} {ns : List ByteArray} {pre : List Ty} {o : Option Ty} (hw : wlk l (fndT l n) pre o) (h : ∃ y ∈ pre, hasT ns y.nam = true) : metB l n ns = true := by
  obtain ⟨_, rest, hr⟩ := wlk_few hk hw
  obtain ⟨y, hy, h⟩ := h
  unfold metB
  rw [hr, List.any_append, List.any_eq_true.2 ⟨y.nam, List.mem_map_of_mem hy, h⟩]
  rfl
theorem met_no {l : List Ty} (hk : okT l = true) {n : ByteArray} {ns : List ByteArray} {xs : List Ty} (hw : wlk l (fndT l n) xs none) (h : ∀ y ∈ xs, hasT ns y.nam = false) : metB l n ns = false := by
  unfold metB
  rw [wlk_line hk hw, List.any_eq_false]
  intro y hy
  obtain ⟨z, hz, rfl⟩ := List.mem_map.1 hy
  rw [h z hz]
  decide
theorem bt_put {W : World} {L b : Nat} {r r' : Loop} {x : Ty} (h : Bt b x W) (hr : W.heap[L]? = some (.loop r)) : Bt b x (W.putObj L (.loop r')) := by
  refine (World.putObj_heap_other fun e => ?_).trans h
  subst e
  unfold Bt at h
  rw [h] at hr
  cases hr
set_option maxRecDepth 100000 in
set_option maxHeartbeats 3200000 in
theorem meets_any (v u : Value) (l : List Ty) (n : ByteArray) (ns : List ByteArray) (w : World) (hk : okT l = true) (hV : TysV w v l) (hN : TsV w u ns) : Calls Try.prog 28 #[v, .string n, u] w fun e w' => e = .returned (.bool (metB l n ns)) ∧ Below w.heap.size w w' := by
  have HV := hide hV
  have HN := hide hN
  have HK := hide hk
  obtain ⟨va, vc, rfl⟩ := hV.shape
  obtain ⟨ua, uc, rfl, _⟩ := hN
  clear hV hk
  refine (callsIn_wide (n := 5)).1 ?_
  refine callsIn_of_wp_marks Try.func28 rfl trivial ?_ rfl
  simp only [Try.ntmps28, List.size_toArray, List.length_cons, List.length_nil, Nat.reduceAdd, Nat.reduceSub, Array.replicate_succ, Array.replicate_zero, List.push_toArray, List.append_toArray, List.nil_append, List.cons_append]
  gi_wp2_with (refine ⟨trivial, ?_⟩; gi_at_call 29; refine (callsIn_wide.2 (mkline_any _ _ _ _ _)).mono ?_; rintro e w2 ⟨rfl, rfl⟩)
  obtain ⟨W0, hW0⟩ : ∃ W0, ((((w.alloc (.cells #[.slice ua ns.length uc] 36)).alloc (.cells #[.bool false] 4)).alloc (.cells #[.slice va l.length vc] 22)).alloc (.cells #[.string n] 9)) = W0 := ⟨_, rfl⟩
  rw [hW0]
  have s0 : W0.heap.size = w.heap.size + 4 := by rw [← hW0]; simp
  have B0 : Below w.heap.size w W0 := by rw [← hW0]; exact ((((Below.refl _ w).alloc (by simp) _).alloc (by simp) _).alloc (by simp; omega) _).alloc (by simp; omega) _
  have x0 : Boxed W0 w.heap.size 36 (.slice ua ns.length uc) := by rw [← hW0]; exact (((Boxed.new _ _ _).alloc _).alloc _).alloc _
  have x1 : Boxed W0 (w.heap.size + 1) 4 (.bool false) := by rw [← hW0]; exact ((box_at (by simp)).alloc _).alloc _
  have x2 : Boxed W0 (w.heap.size + 1 + 1) 22 (.slice va l.length vc) := by rw [← hW0]; exact (box_at (by simp)).alloc _
  have x3 : Boxed W0 (w.heap.size + 1 + 1 + 1) 9 (.string n) := by rw [← hW0]; exact (box_at (by simp))
  clear hW0
  have hI : ∀ (s : List Ty) (A C : World), ((∀ y ∈ s, hasT ns y.nam = false) ∧ Boxed A w.heap.size 36 (.slice ua ns.length uc) ∧ Boxed A (w.heap.size + 1) 4 (.bool false) ∧ Below w.heap.size w A) → Qr W0.heap.size A C →
      ((∀ y ∈ s, hasT ns y.nam = false) ∧ Boxed C w.heap.size 36 (.slice ua ns.length uc) ∧ Boxed C (w.heap.size + 1) 4 (.bool false) ∧ Below w.heap.size w C) := fun s A C ⟨h1, h2, h3, h5⟩ k => ⟨h1, k.same _ _ h2 rfl, k.same _ _ h3 rfl, h5.trans (k.below.mono (by omega))⟩
  refine wpIn_up 5 (w.heap.size + 1 + 1) (w.heap.size + 1 + 1 + 1) w.heap.size l.length (by omega) (.slice va l.length vc) l n rfl rfl x2 x3.cell (by omega) (fun W' h => (unhide HV).below (B0.trans h))
    (fun s A => (∀ y ∈ s, hasT ns y.nam = false) ∧ Boxed A w.heap.size 36 (.slice ua ns.length uc) ∧ Boxed A (w.heap.size + 1) 4 (.bool false) ∧ Below w.heap.size w A)
    (fun s A => (∃ y ∈ s, hasT ns y.nam = true) ∧ Boxed A (w.heap.size + 1) 4 (.bool true) ∧ Below w.heap.size w A)
    hI (fun s A C ⟨h1, h2, h3⟩ k => ⟨h1, k.same _ _ h2 rfl, h3.trans (k.below.mono (by omega))⟩)
    ⟨by simp, x0, x1, B0⟩
    (fun x => #[.slice va l.length vc, .string n, .slice ua ns.length uc, undef, undef, .pointer (some ⟨w.heap.size, 0, none⟩), .pointer (some ⟨w.heap.size + 1, 0, none⟩), undef, .slice va l.length vc, .string n, .func (.func 36) #[] #[.pointer (some ⟨w.heap.size + 1 + 1, 0, none⟩), .pointer (some ⟨w.heap.size + 1 + 1 + 1, 0, none⟩)], aggV x, undef, undef, undef, undef]) (fun _ => by simp)
    (fun pre x W _ hw => (wlk_few (unhide HK) hw).1) ?round ?done ?stop
  case round =>
    intro L pre x W hL hLW hi hw
    unfold aggV
    gi_wp2
    refine ⟨Ke.one _ _ (by omega), fun r r' hr => ?_⟩
    have hi2 := hI _ _ _ hi ((Ke.one plainO (A := W) (.cells #[.string x.nam, .string x.abv, .int .i64 x.syn, .int .i64 x.rul, .bool x.sgl, .bool x.cls] 26) (B := W0.heap.size) (by omega)).trans (Ke.put (.loop r') (by omega) hr rfl))
    have HX := hide (bt_put (r' := r') (show Bt W.heap.size x _ from heap_new W _) hr)
    generalize (W.alloc (.cells #[.string x.nam, .string x.abv, .int .i64 x.syn, .int .i64 x.rul, .bool x.sgl, .bool x.cls] 26)).putObj L (.loop r') = W2 at *
    obtain ⟨h1, y0, y1, hb⟩ := hi2
    have c0 := y0.cell
    have c1 := y1.cell
    have f1 := y1.frozen
    have q0 := (unhide HX).cells.1
    have CC := hide (containsT_any _ ns x.nam W2 ((unhide HN).below hb))
    cases hq : hasT ns x.nam
    · rw [hq] at CC
      gi_wp2_with (refine ⟨trivial, ?_⟩; gi_at_call 35; refine (CallsIn.inRound L (callsIn_wide.2 (unhide CC))).mono ?_; rintro e w3 ⟨rfl, rfl⟩)
      exact ⟨Ke.refl _ _ _, fun y hy => (List.mem_append.1 hy).elim (h1 y) (fun e => by rw [List.mem_singleton.1 e]; exact hq), y0, y1, hb⟩
    · rw [hq] at CC
      gi_wp2_with (refine ⟨trivial, ?_⟩; gi_at_call 35; refine (CallsIn.inRound L (callsIn_wide.2 (unhide CC))).mono ?_; rintro e w3 ⟨rfl, rfl⟩)
      exact ⟨Ke.set (by omega) y1 rfl, ⟨x, by simp, hq⟩, y1.set _, hb.setCell (p := ⟨w.heap.size + 1, 0, none⟩) (by simp) _⟩
  case done =>
    rintro D xs W hD hw ⟨h1, _, y1, hb⟩ hK
    have c1 := y1.cell
    have f1 := y1.frozen
    gi_wp2
    have hK' := (KeepsOthers.setCell W ⟨w.heap.size + 1, 0, none⟩ (.bool false)).same D _ hK rfl
    refine ⟨by simp, .inl ⟨_, _, rfl, run_takeDeferred hK', ?_⟩⟩
    have hc5 := cell_kept ((y1.set (.bool false)).cell) (grownBy_putObj' _ D (.deferred none)) (fun r e => by cases e; exact ⟨_, hK', rfl⟩)
    refine ⟨.bool false, ?_, by rw [met_no (unhide HK) hw h1], (hb.setCell (p := ⟨w.heap.size + 1, 0, none⟩) (by simp) _).trans (belowK_b (w := w) (Nat.le_refl _) _ D _ _ (by omega) hK' rfl rfl)⟩
    simp [results, Try.f28, go_sem, hc5]
  case stop =>
    rintro D pre o W hD hw ⟨h1, y1, hb⟩ hK
    gi_wp2
    refine ⟨by simp, .inl ⟨_, _, rfl, run_takeDeferred hK, ?_⟩⟩
    have hc5 := cell_kept y1.cell (grownBy_putObj' _ D (.deferred none)) (fun r e => by cases e; exact ⟨_, hK, rfl⟩)
    refine ⟨.bool true, ?_, by rw [met_yes (unhide HK) hw h1], hb.trans (belowK_b (w := w) (Nat.le_refl _) W D _ _ (by omega) hK rfl rfl)⟩
    simp [results, Try.f28, go_sem, hc5]
end Go.Proofs.Ytoaoplfbnjajiaa
