/- The fixed answers that every law of this stage asks. -/
import Derived.Test.YtnlkefdicpeemaaBuild
import Derived.Test.YtnlkefdicpeemaaFind
import Derived.Test.YtnlkefdicpeemaaSame
namespace Go.Proofs.Ytnlkefdicpeemaa
open Go.RowKit

def awL : List Sp := [⟨10, 20, 1⟩, ⟨15, 17, 2⟩, ⟨21, 30, 1⟩]
def awT : List Sp := [⟨10, 14, 1⟩, ⟨15, 17, 2⟩, ⟨18, 30, 1⟩]
theorem aw_edges (es : List Int) (hp : es.Pairwise (· < ·)) (hm : ∀ x, x ∈ es ↔ ∃ s, s ∈ awL ∧ (x = s.f ∨ x = s.t + 1)) : es = [10, 15, 18, 21, 31] := by
  refine rise_unique es _ hp (by decide) (fun x => ?_)
  rw [hm x]
  simp [awL]
  omega
theorem aw_bld : bldTo awL [10, 15, 18, 21, 31] 5 = awT := (eqL_iff _ _).1 (by decide)

theorem tab_new (w : World) (l : List Sp) (cs : Array Value) (hcs : cs.toList = spcs l) : Tab (w.alloc (.cells cs 37)) (.slice (some ⟨w.heap.size, 0, none⟩) l.length l.length) l := by
  refine ⟨_, _, rfl, fun _ => ⟨w.heap.size, 0, rfl, fun j hj => ?_⟩⟩
  obtain ⟨h1, h2, h3⟩ := spcs_get l j hj
  have hc : ∀ i u, (spcs l)[i]? = some u → (w.alloc (.cells cs 37)).cell? ⟨w.heap.size, i, none⟩ = some u := fun i u hu => by
    rw [World.cell?_alloc_mark]
    rw [← hcs] at hu
    simpa using hu
  rw [Nat.zero_add]
  exact ⟨hc _ _ h1, hc _ _ h2, hc _ _ h3⟩

set_option maxRecDepth 100000 in
set_option maxHeartbeats 1600000 in
theorem awake_any (w : World) : Calls Try.prog 8 #[] w fun e w' => e = .returned (.bool true) ∧ Below w.heap.size w w' := by
  have HB : Hid (∀ W, Tab W (.slice (some ⟨w.heap.size, 0, none⟩) 3 3) awL → Calls Try.prog 15 #[.slice (some ⟨w.heap.size, 0, none⟩) 3 3] W fun e w' => ∃ g o c, e = .returned (.tuple #[.slice (some ⟨g, o, none⟩) 3 c, .int .i64 0]) ∧ Tab w' (.slice (some ⟨g, o, none⟩) 3 c) awT ∧ (w'.cell? ⟨g, o + 6, none⟩ = some (.int .i32 18) ∧ w'.cell? ⟨g, o + 6 + 1, none⟩ = some (.int .i32 30) ∧ w'.cell? ⟨g, o + 6 + 2, none⟩ = some (.int .i64 1)) ∧ Below W.heap.size W w') := fun W hT =>
    (build_yes _ awL W hT (by decide) (by decide) (sort_small _ (by rw [List.size_toArray, edsTo_length]; decide))).mono fun e w' ⟨u, es, h1, h2, _, h3, h4, h5⟩ => by
      have he := aw_edges es h2 h3
      subst he
      have h6 : Tab w' u awT := aw_bld ▸ h4
      clear h4
      obtain ⟨a, c, rfl, hc⟩ := h6
      obtain ⟨g, o, rfl, hcc⟩ := hc (by decide)
      exact ⟨g, o, c, h1, ⟨_, _, rfl, fun _ => ⟨g, o, rfl, hcc⟩⟩, hcc 2 (by decide), h5⟩
  have ht0 := tab_new w awL #[.int .i32 10, .int .i32 20, .int .i64 1, .int .i32 15, .int .i32 17, .int .i64 2, .int .i32 21, .int .i32 30, .int .i64 1] rfl
  have HT0 := hide ht0
  have hgd := span_guard
  have heq := fun w => eql_span 18 30 1 18 30 1 w
  have hdd : decide ((18 : Int) = 18 ∧ (30 : Int) = 30 ∧ (1 : Int) = 1) = true := by decide
  rw [hdd] at heq
  clear ht0 hdd
  go_enter Try.func8, Try.ntmps8
  have f1 : fndT awT 16 = 2 := by decide
  have f2 : fndT awT 31 = 0 := by decide
  have f3 : cntT awT 1 = 18 := by decide
  have f4 : chk awT = 0 := by decide
  have f5 : chk [⟨1, 0, 0⟩] = 20 := by decide
  have H1 : Hid (∀ W v, Tab W v awT → Calls Try.prog 11 #[v, .int .i32 16] W fun e w' => e = .returned (.int .i64 2) ∧ Gr W w') := fun W v hT => by rw [← f1]; exact find_any v awT 16 W hT
  have H2 : Hid (∀ W v, Tab W v awT → Calls Try.prog 11 #[v, .int .i32 31] W fun e w' => e = .returned (.int .i64 0) ∧ Gr W w') := fun W v hT => by rw [← f2]; exact find_any v awT 31 W hT
  have H3 : Hid (∀ W v, Tab W v awT → Calls Try.prog 13 #[v, .int .i64 1] W fun e w' => e = .returned (.int .i64 18) ∧ Gr W w') := fun W v hT => by rw [← f3]; exact count_any v awT 1 W hT
  have H4 : Hid (∀ W v, Tab W v awT → Calls Try.prog 9 #[v] W fun e w' => e = .returned (.int .i64 0) ∧ Gr W w') := fun W v hT => by rw [← f4]; exact check_any v awT W hT
  have H5 : Hid (∀ W v, Tab W v [⟨1, 0, 0⟩] → Calls Try.prog 9 #[v] W fun e w' => e = .returned (.int .i64 20) ∧ Gr W w') := fun W v hT => by rw [← f5]; exact check_any v [⟨1, 0, 0⟩] W hT
  clear f1 f2 f3 f4 f5
  go_wp2_with (first
    | (go_at_call 15; refine (unhide HB _ (unhide HT0)).mono ?_; rintro e w1 ⟨g, o, c, rfl, hT, ⟨k1, k2, k3⟩, hb1⟩; have HT := hide hT; clear hT)
    | (go_at_call 11; refine (unhide H1 _ _ (unhide HT)).mono ?_; rintro e w2 ⟨rfl, g2⟩; have HT2 := hide (g2.tab (unhide HT)); clear H1)
    | (go_at_call 11; refine (unhide H2 _ _ (unhide HT2)).mono ?_; rintro e w3 ⟨rfl, g3⟩; have HT3 := hide (g3.tab (unhide HT2)); clear H2)
    | (go_at_call 13; refine (unhide H3 _ _ (unhide HT3)).mono ?_; rintro e w4 ⟨rfl, g4⟩; have HT4 := hide (g4.tab (unhide HT3)))
    | (go_at_call 9; refine (unhide H4 _ _ (unhide HT4)).mono ?_; rintro e w5 ⟨rfl, g5⟩; have HT5 := hide (tab_new w5 [⟨1, 0, 0⟩] #[.int .i32 1, .int .i32 0, .int .i64 0] rfl); clear H4)
    | (go_at_call 9; refine (unhide H5 _ _ (unhide HT5)).mono ?_; rintro e w6 ⟨rfl, g6⟩))
  go_ret
  refine ⟨rfl, ?_⟩
  have ga := (((g2.trans g3).trans g4).trans g5).trans ((Gr.one w5 (.cells #[.int .i32 1, .int .i32 0, .int .i64 0] 37)).trans g6)
  have gb := below_new hb1
  exact gb.trans (ga.below.mono gb.size)
end Go.Proofs.Ytnlkefdicpeemaa
