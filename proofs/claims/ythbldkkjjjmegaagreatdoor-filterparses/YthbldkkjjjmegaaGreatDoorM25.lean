/- The landed item of layer 24. (By gen_itl.py.) -/
import Derived.Test.YthbldkkjjjmegaaGreatDoorM22
import Derived.Test.YthbldkkjjjmegaaGreatDoorM23
import Derived.Test.YthbldkkjjjmegaaGreatDoorM24
import Derived.OrdersIn
namespace Go.Proofs.YthbldkkjjjmegaaGreatDoor
set_option maxRecDepth 100000
open Go.RowKit

/-- What an item's making answers. -/
def ItPost (o : Option Fl) (w : World) (e : Ending) (w' : World) : Prop :=
  ∃ x e0, e = .returned (.tuple #[x, .bool o.isSome]) ∧ FlVP (fun b => w.heap.size ≤ b ∧ b < w'.heap.size) w' e0 x ∧ (∀ f, o = some f → f = e0) ∧ Below w.heap.size w w'
theorem flv_itm2 (P : Nat → Prop) (w : World) (k : Int) (n v r : ByteArray) (d : Bool) : FlVP P w (.mk k n v ⟨#[]⟩ [] ⟨#[]⟩ false false r d []) (.agg #[.int .i64 k, .string n, .string v, .string ⟨#[]⟩, .slice none 0 0, .string ⟨#[]⟩, .bool false, .bool false, .string r, .bool d, .slice none 0 0]) := fun W2 _ => by
  simp only [FlV]
  exact ⟨none, 0, none, 0, rfl, TxC.nil _ _, by decide, .inl rfl⟩
theorem itm9_no {h : List Int} {vs : List (List Int)} (hx : extP (splitL 58 h) = none) : itmL h 9 vs = none := by
  unfold itmL; rw [if_pos rfl, hx]
theorem itm9_long {h : List Int} {vs : List (List Int)} (hl : ¬ vs.length = 1) : itmL h 9 vs = none := by
  unfold itmL; rw [if_pos rfl]
  cases extP (splitL 58 h) with
  | none => rfl
  | some x => obtain ⟨n, d, r⟩ := x; dsimp only; rw [if_neg hl]
theorem itm9_yes {h n r : List Int} {d : Bool} {vs : List (List Int)} (hx : extP (splitL 58 h) = some (n, d, r)) (hl : vs.length = 1) : itmL h 9 vs = some (itmF 9 n (vs.getD 0 []) r d) := by
  unfold itmL; rw [if_pos rfl, hx]; dsimp only; rw [if_pos hl]
theorem itm_one {h : List Int} {k : Int} {vs : List (List Int)} (hk : ¬ k = 9) (hl : vs.length = 1) : itmL h k vs = some (itmF k h (vs.getD 0 []) [] false) := by
  unfold itmL; rw [if_neg hk, if_pos hl]
theorem itm_star {h : List Int} {k : Int} {vs : List (List Int)} (hk : ¬ k = 9) (hl : ¬ vs.length = 1) : itmL h k vs = if k = 3 then starL h vs else none := by
  unfold itmL; rw [if_neg hk, if_neg hl]
theorem star_pres (h : List Int) : starL h [[], []] = some (.mk 7 (strOfNums h) ⟨#[]⟩ ⟨#[]⟩ [] ⟨#[]⟩ false false ⟨#[]⟩ false []) := by unfold starL; rw [if_pos rfl]
theorem star_sub {h v : List Int} {ws : List (List Int)} (hne : ¬ v :: ws = [[], []]) : starL h (v :: ws) = some (subF h v (midS ws) (lastS ws)) := by unfold starL; rw [if_neg hne]
theorem midS_nums (l : List ByteArray) : midS (l.map nums) = l.dropLast := by
  unfold midS
  rw [← List.map_dropLast, List.map_map]
  conv => rhs; rw [← List.map_id l.dropLast]
  exact List.map_congr_left fun x _ => strOfNums_nums x
theorem emp_nums (s : ByteArray) : (nums s).isEmpty = s.toList.isEmpty := by
  rw [emp_sz, Bool.eq_iff_iff, List.isEmpty_iff, decide_eq_true_eq, ← nums_length s, List.length_eq_zero_iff]
theorem tx_own {w W2 : World} {B : Nat} {v : Value} {ps : List ByteArray} (h : Tx B v ps w) (hk : ∀ k, v.ownBlock = some k → W2.heap[k]? = w.heap[k]?) : Tx B v ps W2 := by
  refine ⟨h.1, ?_⟩
  rcases h.2 with hn | ⟨g, cap, cur, hv, hb, hg, r⟩
  · exact .inl hn
  · exact .inr ⟨g, cap, cur, hv, hb, (hk g (by rw [hv]; rfl)).trans hg, r⟩
theorem tx_base {w : World} {B C : Nat} {v : Value} {ps : List ByteArray} (h : Tx B v ps w) (hc : C ≤ B) : Tx C v ps w := ⟨h.1, h.2.imp (fun x => x) fun ⟨g, cap, cur, hv, hb, r⟩ => ⟨g, cap, cur, hv, Nat.le_trans hc hb, r⟩⟩
theorem tx_ne {w : World} {B b : Nat} {v : Value} {ps : List ByteArray} {cs : Array Value} {T : TypeId} (h : Tx B v ps w) (hb : w.heap[b]? = some (.cells cs T)) (hT : T ≠ 9) : v.ownBlock ≠ some b := by
  rcases h.2 with ⟨hv, _⟩ | ⟨g, cap, cur, hv, _, hg, _⟩
  · rw [hv]; simp [Value.ownBlock]
  · rw [hv]
    intro e
    simp only [Value.ownBlock, Option.some.injEq] at e
    subst e
    rw [hb] at hg
    injection hg with h1
    injection h1 with h2 h3
    exact hT h3
/-- slices.Clone of texts. -/
theorem clone_land (g off n c : Nat) (zs : List ByteArray) (w : World) (hn : n = zs.length) (hl : zs.length ≤ 100000) (hc : ∀ j, j < zs.length → w.cell? ⟨g, off + j, none⟩ = some (.string (zs.getD j ByteArray.empty))) : Calls Tryz.prog 76 #[.slice (some ⟨g, off, none⟩) n c] w fun e w' => ∃ va, e = .returned va ∧ Tx w.heap.size va zs w' ∧ Below w.heap.size w w' := by
  subst hn
  refine (Any.slices_Clone_string lays16 g off zs.length c zs w (Nat.le_refl _) (by omega) hc).mono ?_
  rintro e w' ⟨v', h1, h2, -, h3⟩
  rw [List.take_length] at h2
  exact ⟨v', h1, h2, h3⟩
theorem put34h {W : World} {g : Nat} {a0 a1 a2 a3 a4 b3 b4 : Value} {T : TypeId} (h : W.heap[g]? = some (.cells #[a0, a1, a2, a3, a4] T)) : ((W.setCell ⟨g, 3, none⟩ b3).setCell ⟨g, 4, none⟩ b4).heap[g]? = some (.cells #[a0, a1, a2, b3, b4] T) := by
  simp [World.setCell, Array.getElem?_modify, h]
theorem cells5b {W : World} {B : Nat} {a0 a1 a2 a3 a4 : Value} {T : TypeId} (h : W.heap[B]? = some (.cells #[a0, a1, a2, a3, a4] T)) : W.cell? ⟨B, 0, none⟩ = some a0 ∧ W.cell? ⟨B, 1, none⟩ = some a1 ∧ W.cell? ⟨B, 2, none⟩ = some a2 ∧ W.cell? ⟨B, 3, none⟩ = some a3 ∧ W.cell? ⟨B, 4, none⟩ = some a4 := by
  refine ⟨?_, ?_, ?_, ?_, ?_⟩ <;> simp [World.cell?, h]
/-- Behind the making of pieces: the result's box at R, the pieces' box at pa. -/
structure Pb (w W : World) (R pa : Nat) (B : Nat) (i f : ByteArray) (va : Value) (mid : List ByteArray) : Prop where
  res : W.heap[R]? = some (.cells #[.int .i64 0, .string ⟨#[]⟩, .string ⟨#[]⟩, .string ⟨#[]⟩, .slice none 0 0, .string ⟨#[]⟩, .bool false, .bool false, .string ⟨#[]⟩, .bool false, .slice none 0 0] 27)
  box : W.heap[pa]? = some (.cells #[.string i, va, .string f, .bool false, .bool false] 24)
  tx : Tx B va mid W
  bel : Below w.heap.size w W
  ge : w.heap.size ≤ pa
theorem put5 {W : World} {g : Nat} {a0 a1 a2 a3 a4 b0 b1 b2 b3 b4 : Value} {T : TypeId} (h : W.heap[g]? = some (.cells #[a0, a1, a2, a3, a4] T)) : (((((W.setCell ⟨g, 0, none⟩ b0).setCell ⟨g, 1, none⟩ b1).setCell ⟨g, 2, none⟩ b2).setCell ⟨g, 3, none⟩ b3).setCell ⟨g, 4, none⟩ b4).heap[g]? = some (.cells #[b0, b1, b2, b3, b4] T) := by
  simp [World.setCell, Array.getElem?_modify, h]
set_option maxRecDepth 4000 in
set_option maxHeartbeats 25600000 in
theorem it_land (h : ByteArray) (k : Int) (ps : List ByteArray) (g c : Nat) (w : World) (hL : Ly w) (hs : h.size ≤ 4000) (hp : 0 < ps.length) (hpl : ps.length ≤ 100000) (hcap : ps.length ≤ c) (hc : ∀ j, j < ps.length → w.cell? ⟨g, j, none⟩ = some (.string (ps.getD j ByteArray.empty))) :
    Calls Tryz.prog 62 #[.string h, .int .i64 k, .slice (some ⟨g, 0, none⟩) ps.length c] w fun e w' => ItPost (itmL (nums h) k (ps.map nums)) w e w' := by
  obtain ⟨M, hM⟩ : ∃ M, ps.length = M + 1 := ⟨ps.length - 1, by omega⟩
  have hlen : (ps.map nums).length = M + 1 := by rw [List.length_map, hM]
  have c0 := hc 0 hp
  have cM := hc M (by omega)
  have HMID : Hid (∀ j, j < (ps.drop 1).dropLast.length → w.cell? ⟨g, 1 + j, none⟩ = some (.string ((ps.drop 1).dropLast.getD j ByteArray.empty))) := fun j hj => by
    simp only [List.length_dropLast, List.length_drop] at hj
    have := hc (1 + j) (by omega)
    rw [this]
    congr 2
    simp only [List.getD, List.getElem?_dropLast, List.getElem?_drop, List.length_drop]
    rw [if_pos (by omega)]
  have hps : ps = ps.getD 0 ByteArray.empty :: ps.drop 1 := by
    cases ps with
    | nil => simp at hp
    | cons a t => rfl
  have hdl : (ps.drop 1).dropLast.length = M - 1 := by simp only [List.length_dropLast, List.length_drop]; omega
  have hlast : 0 < M → lastS ((ps.drop 1).map nums) = nums (ps.getD M ByteArray.empty) := fun h0 => by
    unfold lastS
    rw [List.getLast?_map, List.getLast?_drop, if_neg (by omega)]
    rw [List.getLast?_eq_getElem?, hM, Nat.add_sub_cancel]
    simp only [List.getD]
    rw [List.getElem?_eq_getElem (by omega)]
    rfl
  have hv0 : (ps.map nums).getD 0 [] = nums (ps.getD 0 ByteArray.empty) := by rw [hps]; rfl
  obtain ⟨v0, hv0e⟩ : ∃ v0, ps.getD 0 ByteArray.empty = v0 := ⟨_, rfl⟩
  obtain ⟨vM, hvMe⟩ : ∃ vM, ps.getD M ByteArray.empty = vM := ⟨_, rfl⟩
  rw [hv0e] at c0 hv0
  rw [hvMe] at cM
  rw [hM]
  rw [hM] at hcap hpl
  have zN : IntKind.i64.wrap (((M + 1 : Nat) : Int) - 1) = (M : Int) := by rw [wrap_in (by omega) (by omega)]; omega
  have zN' : IntKind.i64.wrap ((M : Int) + 1 - 1) = (M : Int) := by rw [wrap_in (by omega) (by omega)]; omega
  have z0 : (0 : Int) < ((M + 1 : Nat) : Int) := by omega
  have z0' : (0 : Int) < (M : Int) + 1 := by omega
  have zM0 : (0 : Int) ≤ (M : Int) := by omega
  have zMl : (M : Int) < (M : Int) + 1 := by omega
  have cc0 := ((Below.one w (.cells #[.int .i64 0, .string ⟨#[]⟩, .string ⟨#[]⟩, .string ⟨#[]⟩, .slice none 0 0, .string ⟨#[]⟩, .bool false, .bool false, .string ⟨#[]⟩, .bool false, .slice none 0 0] 27)).cell (cell_lt c0)).trans c0
  have ccM := ((Below.one w (.cells #[.int .i64 0, .string ⟨#[]⟩, .string ⟨#[]⟩, .string ⟨#[]⟩, .slice none 0 0, .string ⟨#[]⟩, .bool false, .bool false, .string ⟨#[]⟩, .bool false, .slice none 0 0] 27)).cell (cell_lt cM)).trans cM
  have hg1 : ¬ g = w.heap.size := by have := cell_lt c0; simp only at this; omega
  have hg2 : ¬ w.heap.size = g := fun e => hg1 e.symm
  by_cases hk : k = 9
  · subst hk
    have CE := hide (fun W (hw : Below w.heap.size w W) => ext_land h W (hL.keep hw) hs)
    have HR := heap_new w (.cells #[.int .i64 0, .string ⟨#[]⟩, .string ⟨#[]⟩, .string ⟨#[]⟩, .slice none 0 0, .string ⟨#[]⟩, .bool false, .bool false, .string ⟨#[]⟩, .bool false, .slice none 0 0] 27)
    have HB := Below.one w (.cells #[.int .i64 0, .string ⟨#[]⟩, .string ⟨#[]⟩, .string ⟨#[]⟩, .slice none 0 0, .string ⟨#[]⟩, .bool false, .bool false, .string ⟨#[]⟩, .bool false, .slice none 0 0] 27)
    clear HMID hps hdl hlast hc hL cM ccM

    cases hx : extP (splitL 58 (nums h)) with
    | none =>
      have HX : Hid (itmL (nums h) 9 (ps.map nums) = none) := itm9_no hx
      have HEX : Hid (exB (splitL 58 (nums h)) = false) := by show _ = _; unfold exB; rw [hx]; rfl
      clear hx hv0 hlen
      go_enter Tryz.func62, Tryz.ntmps62
      go_upto_region 4 with (go_at_call 75; refine (unhide CE _ HB).mono ?_; rintro e w2 ⟨n, r, d, rfl, hx, b2⟩; have HR2 := keep_blk HR b2; have t2 := HB.trans (b2.mono HB.size); have c2 := (t2.cell (cell_lt c0)).trans c0; have c3 := ((t2.trans ((Below.one w2 (.cells #[.int .i64 9, .string n, .string ⟨#[]⟩, .string ⟨#[]⟩, .slice none 0 0, .string ⟨#[]⟩, .bool false, .bool false, .string r, .bool d, .slice none 0 0] 27)).mono t2.size)).cell (cell_lt c0)).trans c0)
      rw [show exB (splitL 58 (nums h)) = false from unhide HEX]
      have HR3 := keep_blk HR2 (Below.one w2 (.cells #[.int .i64 9, .string n, .string ⟨#[]⟩, .string ⟨#[]⟩, .slice none 0 0, .string ⟨#[]⟩, .bool false, .bool false, .string r, .bool d, .slice none 0 0] 27))
      have HF3 := heap_new w2 (.cells #[.int .i64 9, .string n, .string ⟨#[]⟩, .string ⟨#[]⟩, .slice none 0 0, .string ⟨#[]⟩, .bool false, .bool false, .string r, .bool d, .slice none 0 0] 27)
      have t3 := t2.trans ((Below.one w2 (.cells #[.int .i64 9, .string n, .string ⟨#[]⟩, .string ⟨#[]⟩, .slice none 0 0, .string ⟨#[]⟩, .bool false, .bool false, .string r, .bool d, .slice none 0 0] 27)).mono t2.size)
      have hz5 : w.heap.size < w2.heap.size := blk_lt24 HR2
      have HZ5 := hide hz5
      have hg5 : ¬ w.heap.size = w2.heap.size := by omega
      have hg6 : ¬ w2.heap.size = w.heap.size := by omega
      have hg3 : ¬ g = w2.heap.size := by have := cell_lt c2; simp only at this; omega
      have hg4 : ¬ w2.heap.size = g := fun e => hg3 e.symm
      clear hz5 HR2 t2 b2 c2 HR HB CE
      generalize w2.alloc (.cells #[.int .i64 9, .string n, .string ⟨#[]⟩, .string ⟨#[]⟩, .slice none 0 0, .string ⟨#[]⟩, .bool false, .bool false, .string r, .bool d, .slice none 0 0] 27) = W3 at *
      obtain ⟨k0, k1, k2, k3, k4, k5, k6, k7, k8, k9, k10⟩ := cells11 HF3
      obtain ⟨m0, m1, m2, m3, m4, m5, m6, m7, m8, m9, m10⟩ := cells11 HR3
      have frF := froz11 HF3
      have frR := froz11 HR3
      go_wp2
      refine bodyPost_ret (res_fil2 rfl _ _ w.heap.size (.int .i64 9) (.string n) (.string v0) (.string ⟨#[]⟩) (.slice none 0 0) (.string ⟨#[]⟩) (.bool false) (.bool false) (.string r) (.bool d) (.slice none 0 0) rfl (by
        refine put11h (a0 := (.int .i64 0)) (a1 := (.string ⟨#[]⟩)) (a2 := (.string ⟨#[]⟩)) (a3 := (.string ⟨#[]⟩)) (a4 := (.slice none 0 0)) (a5 := (.string ⟨#[]⟩)) (a6 := (.bool false)) (a7 := (.bool false)) (a8 := (.string ⟨#[]⟩)) (a9 := (.bool false)) (a10 := (.slice none 0 0)) ?_
        repeat (first | with_reducible exact HR3 | refine heap_far ?_ (by have z := unhide HZ5; first | omega | (dsimp only; omega))))) rfl ?_
      refine ⟨_, _, by rw [unhide HX]; rfl, flv_itm2 _ _ 9 n v0 r d, (fun f hf => by rw [unhide HX] at hf; cases hf), ?_⟩
      repeat (first | with_reducible exact t3 | refine Below.setCell ?_ (by have z := unhide HZ5; first | omega | (dsimp only; omega)) _)
    | some y =>
      obtain ⟨n9, d9, r9⟩ := y
      have HEX : Hid (exB (splitL 58 (nums h)) = true) := by show _ = _; unfold exB; rw [hx]; rfl
      have HY := hide hx
      by_cases h1 : M = 0
      · subst h1
        have HX : Hid (itmL (nums h) 9 (ps.map nums) = some (itmF 9 n9 (nums v0) r9 d9)) := by show _ = _; rw [itm9_yes hx (by rw [hlen]), hv0]
        clear hx hv0 hlen
        go_enter Tryz.func62, Tryz.ntmps62
        go_upto_region 4 with (go_at_call 75; refine (unhide CE _ HB).mono ?_; rintro e w2 ⟨n, r, d, rfl, hx, b2⟩; have HR2 := keep_blk HR b2; have t2 := HB.trans (b2.mono HB.size); have c2 := (t2.cell (cell_lt c0)).trans c0; have c3 := ((t2.trans ((Below.one w2 (.cells #[.int .i64 9, .string n, .string ⟨#[]⟩, .string ⟨#[]⟩, .slice none 0 0, .string ⟨#[]⟩, .bool false, .bool false, .string r, .bool d, .slice none 0 0] 27)).mono t2.size)).cell (cell_lt c0)).trans c0)
        rw [show exB (splitL 58 (nums h)) = true from unhide HEX]
        have HR3 := keep_blk HR2 (Below.one w2 (.cells #[.int .i64 9, .string n, .string ⟨#[]⟩, .string ⟨#[]⟩, .slice none 0 0, .string ⟨#[]⟩, .bool false, .bool false, .string r, .bool d, .slice none 0 0] 27))
        have HF3 := heap_new w2 (.cells #[.int .i64 9, .string n, .string ⟨#[]⟩, .string ⟨#[]⟩, .slice none 0 0, .string ⟨#[]⟩, .bool false, .bool false, .string r, .bool d, .slice none 0 0] 27)
        have t3 := t2.trans ((Below.one w2 (.cells #[.int .i64 9, .string n, .string ⟨#[]⟩, .string ⟨#[]⟩, .slice none 0 0, .string ⟨#[]⟩, .bool false, .bool false, .string r, .bool d, .slice none 0 0] 27)).mono t2.size)
        have hz5 : w.heap.size < w2.heap.size := blk_lt24 HR2
        have HZ5 := hide hz5
        have hg5 : ¬ w.heap.size = w2.heap.size := by omega
        have hg6 : ¬ w2.heap.size = w.heap.size := by omega
        have hg3 : ¬ g = w2.heap.size := by have := cell_lt c2; simp only at this; omega
        have hg4 : ¬ w2.heap.size = g := fun e => hg3 e.symm
        clear hz5 HR2 t2 b2 c2 HR HB CE
        generalize w2.alloc (.cells #[.int .i64 9, .string n, .string ⟨#[]⟩, .string ⟨#[]⟩, .slice none 0 0, .string ⟨#[]⟩, .bool false, .bool false, .string r, .bool d, .slice none 0 0] 27) = W3 at *
        obtain ⟨k0, k1, k2, k3, k4, k5, k6, k7, k8, k9, k10⟩ := cells11 HF3
        obtain ⟨m0, m1, m2, m3, m4, m5, m6, m7, m8, m9, m10⟩ := cells11 HR3
        have frF := froz11 HF3
        have frR := froz11 HR3
        go_wp2
        refine bodyPost_ret (res_fil2 rfl _ _ w.heap.size (.int .i64 9) (.string n) (.string v0) (.string ⟨#[]⟩) (.slice none 0 0) (.string ⟨#[]⟩) (.bool false) (.bool false) (.string r) (.bool d) (.slice none 0 0) rfl (by
          refine put11h (a0 := (.int .i64 0)) (a1 := (.string ⟨#[]⟩)) (a2 := (.string ⟨#[]⟩)) (a3 := (.string ⟨#[]⟩)) (a4 := (.slice none 0 0)) (a5 := (.string ⟨#[]⟩)) (a6 := (.bool false)) (a7 := (.bool false)) (a8 := (.string ⟨#[]⟩)) (a9 := (.bool false)) (a10 := (.slice none 0 0)) ?_
          repeat (first | with_reducible exact HR3 | refine heap_far ?_ (by have z := unhide HZ5; first | omega | (dsimp only; omega))))) rfl ?_
        refine ⟨_, _, by rw [unhide HX]; rfl, flv_itm2 _ _ 9 n v0 r d, (fun f hf => by
          rw [unhide HX] at hf
          injection hf with hf
          obtain ⟨e1, e2, e3⟩ := hx _ _ _ (unhide HY)
          rw [← hf, e1, e2, e3]
          unfold itmF
          rw [strOfNums_nums]), ?_⟩
        repeat (first | with_reducible exact t3 | refine Below.setCell ?_ (by have z := unhide HZ5; first | omega | (dsimp only; omega)) _)
      have HX : Hid (itmL (nums h) 9 (ps.map nums) = none) := itm9_long (by rw [hlen]; omega)
      have zb : ((M : Int) == 0) = false := by rw [beq_eq_false_iff_ne]; omega
      clear hx hv0 hlen
      go_enter Tryz.func62, Tryz.ntmps62
      go_upto_region 4 with (go_at_call 75; refine (unhide CE _ HB).mono ?_; rintro e w2 ⟨n, r, d, rfl, hx, b2⟩; have HR2 := keep_blk HR b2; have t2 := HB.trans (b2.mono HB.size); have c2 := (t2.cell (cell_lt c0)).trans c0; have c3 := ((t2.trans ((Below.one w2 (.cells #[.int .i64 9, .string n, .string ⟨#[]⟩, .string ⟨#[]⟩, .slice none 0 0, .string ⟨#[]⟩, .bool false, .bool false, .string r, .bool d, .slice none 0 0] 27)).mono t2.size)).cell (cell_lt c0)).trans c0)
      rw [show exB (splitL 58 (nums h)) = true from unhide HEX]
      have HR3 := keep_blk HR2 (Below.one w2 (.cells #[.int .i64 9, .string n, .string ⟨#[]⟩, .string ⟨#[]⟩, .slice none 0 0, .string ⟨#[]⟩, .bool false, .bool false, .string r, .bool d, .slice none 0 0] 27))
      have HF3 := heap_new w2 (.cells #[.int .i64 9, .string n, .string ⟨#[]⟩, .string ⟨#[]⟩, .slice none 0 0, .string ⟨#[]⟩, .bool false, .bool false, .string r, .bool d, .slice none 0 0] 27)
      have t3 := t2.trans ((Below.one w2 (.cells #[.int .i64 9, .string n, .string ⟨#[]⟩, .string ⟨#[]⟩, .slice none 0 0, .string ⟨#[]⟩, .bool false, .bool false, .string r, .bool d, .slice none 0 0] 27)).mono t2.size)
      have hz5 : w.heap.size < w2.heap.size := blk_lt24 HR2
      have HZ5 := hide hz5
      have hg5 : ¬ w.heap.size = w2.heap.size := by omega
      have hg6 : ¬ w2.heap.size = w.heap.size := by omega
      have hg3 : ¬ g = w2.heap.size := by have := cell_lt c2; simp only at this; omega
      have hg4 : ¬ w2.heap.size = g := fun e => hg3 e.symm
      clear hz5 HR2 t2 b2 c2 HR HB CE
      generalize w2.alloc (.cells #[.int .i64 9, .string n, .string ⟨#[]⟩, .string ⟨#[]⟩, .slice none 0 0, .string ⟨#[]⟩, .bool false, .bool false, .string r, .bool d, .slice none 0 0] 27) = W3 at *
      obtain ⟨k0, k1, k2, k3, k4, k5, k6, k7, k8, k9, k10⟩ := cells11 HF3
      obtain ⟨m0, m1, m2, m3, m4, m5, m6, m7, m8, m9, m10⟩ := cells11 HR3
      have frF := froz11 HF3
      have frR := froz11 HR3
      go_wp2
      refine bodyPost_ret (res_fil2 rfl _ _ w.heap.size (.int .i64 9) (.string n) (.string v0) (.string ⟨#[]⟩) (.slice none 0 0) (.string ⟨#[]⟩) (.bool false) (.bool false) (.string r) (.bool d) (.slice none 0 0) rfl (by
        refine put11h (a0 := (.int .i64 0)) (a1 := (.string ⟨#[]⟩)) (a2 := (.string ⟨#[]⟩)) (a3 := (.string ⟨#[]⟩)) (a4 := (.slice none 0 0)) (a5 := (.string ⟨#[]⟩)) (a6 := (.bool false)) (a7 := (.bool false)) (a8 := (.string ⟨#[]⟩)) (a9 := (.bool false)) (a10 := (.slice none 0 0)) ?_
        repeat (first | with_reducible exact HR3 | refine heap_far ?_ (by have z := unhide HZ5; first | omega | (dsimp only; omega))))) rfl ?_
      refine ⟨_, _, by rw [unhide HX]; rfl, flv_itm2 _ _ 9 n v0 r d, (fun f hf => by rw [unhide HX] at hf; cases hf), ?_⟩
      repeat (first | with_reducible exact t3 | refine Below.setCell ?_ (by have z := unhide HZ5; first | omega | (dsimp only; omega)) _)

  have hk9 : (k == 9) = false := by rw [beq_eq_false_iff_ne]; exact hk
  by_cases h1 : M = 0

  · have HX : Hid (itmL (nums h) k (ps.map nums) = some (itmF k (nums h) (nums v0) [] false)) := by show _ = _; rw [itm_one hk (by rw [hlen, h1]), hv0]
    subst h1
    clear HMID hps hdl hlast hc hL cM hv0 hlen hk
    go_enter Tryz.func62, Tryz.ntmps62
    go_wp2
    refine bodyPost_ret (res_fil2 rfl _ _ w.heap.size (.int .i64 k) (.string h) (.string v0) (.string ⟨#[]⟩) (.slice none 0 0) (.string ⟨#[]⟩) (.bool false) (.bool false) (.string ⟨#[]⟩) (.bool false) (.slice none 0 0) rfl (heap_new w _)) rfl ?_
    exact ⟨_, _, by rw [unhide HX]; rfl, flv_itm2 _ _ k h v0 ⟨#[]⟩ false, (fun f hf => by
      rw [unhide HX] at hf
      injection hf with hf
      rw [← hf]
      unfold itmF
      rw [strOfNums_nums, strOfNums_nums]
      rfl), Below.one _ _⟩

  have zb0 : ((M : Int) == 0) = false := by rw [beq_eq_false_iff_ne]; omega
  have hst := itm_star (h := nums h) (k := k) (vs := ps.map nums) hk (by rw [hlen]; omega)
  have hIS : ∀ f, starL (nums h) (ps.map nums) = some f → (itmL (nums h) k (ps.map nums)).isSome = (k == 3) := fun f hf => by
    rw [hst, hf]
    by_cases h3 : k = 3
    · rw [if_pos h3, h3]; rfl
    · rw [if_neg h3]; exact (beq_eq_false_iff_ne.2 h3).symm
  have hIV : ∀ f f', starL (nums h) (ps.map nums) = some f → itmL (nums h) k (ps.map nums) = some f' → f' = f := fun f f' hf hf' => by
    rw [hst, hf] at hf'
    by_cases h3 : k = 3
    · rw [if_pos h3] at hf'; injection hf' with e; exact e.symm
    · rw [if_neg h3] at hf'; cases hf'
  by_cases hpr : M = 1 ∧ v0 = ⟨#[]⟩ ∧ vM = ⟨#[]⟩

  · obtain ⟨h2, h3, h4⟩ := hpr
    have hP : starL (nums h) (ps.map nums) = some (.mk 7 h ⟨#[]⟩ ⟨#[]⟩ [] ⟨#[]⟩ false false ⟨#[]⟩ false []) := by
      have : ps.map nums = [[], []] := by
        match ps, hM, hv0e, hvMe with
        | [a, b], _, ha, hb =>
          have ha' : a = v0 := ha
          have hb' : b = vM := by subst h2; exact hb
          rw [ha', hb', h3, h4]; rfl
        | [a], hM, _, _ => simp at hM; omega
        | a :: b :: d :: t, hM, _, _ => simp at hM; omega
        | [], hM, _, _ => simp at hM
      rw [this, star_pres, strOfNums_nums]
    have HIS := hide (hIS _ hP)
    have HIV := hide (hIV _ · hP)
    subst h2 h3 h4
    have e1 := txt_yes ⟨#[]⟩
    clear HMID hps hdl hlast hc hL hv0 hlen hk hst hIS hIV hP h1
    go_enter Tryz.func62, Tryz.ntmps62
    go_wp2
    refine bodyPost_ret (res_fil2 rfl _ _ w.heap.size (.int .i64 7) (.string h) (.string ⟨#[]⟩) (.string ⟨#[]⟩) (.slice none 0 0) (.string ⟨#[]⟩) (.bool false) (.bool false) (.string ⟨#[]⟩) (.bool false) (.slice none 0 0) rfl (heap_new w _)) rfl ?_
    exact ⟨_, _, by rw [unhide HIS]; rfl, flv_itm2 _ _ 7 h ⟨#[]⟩ ⟨#[]⟩ false, unhide HIV, Below.one _ _⟩

  have hSub : starL (nums h) (ps.map nums) = some (.mk 4 h ⟨#[]⟩ v0 (ps.drop 1).dropLast vM (!v0.toList.isEmpty) (!vM.toList.isEmpty) ⟨#[]⟩ false []) := by
    have e0 : ps.map nums = nums v0 :: (ps.drop 1).map nums := by have := congrArg (List.map nums) hps; rw [hv0e] at this; exact this
    rw [e0, star_sub, midS_nums, hlast (by omega), hvMe]
    · unfold subF
      rw [strOfNums_nums, strOfNums_nums, strOfNums_nums, emp_nums, emp_nums]
    · intro e
      injection e with e1 e2
      have hl2 := congrArg List.length e2
      simp at hl2
      have hM1 : M = 1 := by omega
      have hz : nums vM = [] := by
        rw [← hvMe, ← hlast (by omega), e2]; rfl
      exact hpr ⟨hM1, by rw [← strOfNums_nums v0, e1]; rfl, by rw [← strOfNums_nums vM, hz]; rfl⟩
  have HIS := hide (hIS _ hSub)
  have HIV := hide (hIV _ · hSub)
  have CC := hide (fun (W : World) (hw : Below w.heap.size w W) => clone_land g 1 (M - 1) (c - 1) (ps.drop 1).dropLast W hdl.symm (by rw [hdl]; omega) (fun j hj => (hw.cell (cell_lt (unhide HMID j hj))).trans (unhide HMID j hj)))
  obtain ⟨mid, hmid⟩ : ∃ mid, (ps.drop 1).dropLast = mid := ⟨_, rfl⟩
  rw [hmid] at HIV CC
  have z1M : (1 : Int) ≤ (M : Int) := by omega
  have wM : wrap64 (M : Int) = (M : Int) := by unfold wrap64; omega
  have zMc : (M : Int) ≤ (c : Int) := by omega
  have zc1 : ¬ c = 1 := by omega
  have HR := heap_new w (.cells #[.int .i64 0, .string ⟨#[]⟩, .string ⟨#[]⟩, .string ⟨#[]⟩, .slice none 0 0, .string ⟨#[]⟩, .bool false, .bool false, .string ⟨#[]⟩, .bool false, .slice none 0 0] 27)
  have HB := Below.one w (.cells #[.int .i64 0, .string ⟨#[]⟩, .string ⟨#[]⟩, .string ⟨#[]⟩, .slice none 0 0, .string ⟨#[]⟩, .bool false, .bool false, .string ⟨#[]⟩, .bool false, .slice none 0 0] 27)
  have hg0 : g < w.heap.size := cell_lt c0
  have HCAP := hide hcap
  have HPR := hide hpr
  have HM0 : Hid (¬ M = 0) := h1
  clear HMID hps hdl hlast hc hL hv0 hlen hk hst hIS hIV hSub hmid hv0e hvMe hpl hpr h1 hM hp hs
  have HPRX : Hid ((((M : Int) == 1) = false) ∨ ((((M : Int) == 1) = true) ∧ v0.toList.isEmpty = false) ∨ ((((M : Int) == 1) = true) ∧ v0 = ⟨#[]⟩ ∧ vM.toList.isEmpty = false)) := by
    by_cases hm : M = 1
    · right
      have hmt : ((M : Int) == 1) = true := by rw [hm]; rfl
      by_cases ha : v0 = ⟨#[]⟩
      · exact .inr ⟨hmt, ha, by rw [emp_sz, decide_eq_false]; intro hz; exact unhide HPR ⟨hm, ha, (sz0 vM).1 hz⟩⟩
      · exact .inl ⟨hmt, by rw [emp_sz, decide_eq_false]; intro hz; exact ha ((sz0 v0).1 hz)⟩
    · left
      rw [beq_eq_false_iff_ne]; omega
  clear HPR

  rcases unhide HPRX with q1 | ⟨q1, q2⟩ | ⟨q1, q2, q3⟩
  · clear HPRX
    have HIV2 : Hid (∀ f, itmL (nums h) k (ps.map nums) = some f → f = .mk 4 h ⟨#[]⟩ v0 mid vM (!v0.toList.isEmpty) (!vM.toList.isEmpty) ⟨#[]⟩ false []) := fun f hf => by
      have z := unhide HIV f hf
      exact z
    go_enter Tryz.func62, Tryz.ntmps62
    go_upto_region 10 with fail
    have oa := (Below.one (w.alloc (.cells #[.int .i64 0, .string ⟨#[]⟩, .string ⟨#[]⟩, .string ⟨#[]⟩, .slice none 0 0, .string ⟨#[]⟩, .bool false, .bool false, .string ⟨#[]⟩, .bool false, .slice none 0 0] 27)) (.cells #[.string ⟨#[]⟩, .slice none 0 0, .string ⟨#[]⟩, .bool false, .bool false] 24))
    have hba : Below w.heap.size w ((w.alloc (.cells #[.int .i64 0, .string ⟨#[]⟩, .string ⟨#[]⟩, .string ⟨#[]⟩, .slice none 0 0, .string ⟨#[]⟩, .bool false, .bool false, .string ⟨#[]⟩, .bool false, .slice none 0 0] 27)).alloc (.cells #[.string ⟨#[]⟩, .slice none 0 0, .string ⟨#[]⟩, .bool false, .bool false] 24)).drew := (HB.trans (oa.mono HB.size)).drew
    have hbd : Below w.heap.size w (w.alloc (.cells #[.int .i64 0, .string ⟨#[]⟩, .string ⟨#[]⟩, .string ⟨#[]⟩, .slice none 0 0, .string ⟨#[]⟩, .bool false, .bool false, .string ⟨#[]⟩, .bool false, .slice none 0 0] 27)).drew := HB.drew
    have XA : ((w.alloc (.cells #[.int .i64 0, .string ⟨#[]⟩, .string ⟨#[]⟩, .string ⟨#[]⟩, .slice none 0 0, .string ⟨#[]⟩, .bool false, .bool false, .string ⟨#[]⟩, .bool false, .slice none 0 0] 27)).alloc (.cells #[.string ⟨#[]⟩, .slice none 0 0, .string ⟨#[]⟩, .bool false, .bool false] 24)).heap[w.heap.size + 1]? = some (.cells #[.string ⟨#[]⟩, .slice none 0 0, .string ⟨#[]⟩, .bool false, .bool false] 24) := by
      have := heap_new (w.alloc (.cells #[.int .i64 0, .string ⟨#[]⟩, .string ⟨#[]⟩, .string ⟨#[]⟩, .slice none 0 0, .string ⟨#[]⟩, .bool false, .bool false, .string ⟨#[]⟩, .bool false, .slice none 0 0] 27)) (.cells #[.string ⟨#[]⟩, .slice none 0 0, .string ⟨#[]⟩, .bool false, .bool false] 24)
      rwa [World.size_alloc] at this
    have XR := keep_blk HR oa
    have HSS : Hid (∀ (W : World), Below w.heap.size w W → (W.cell? ⟨g, 0, none⟩ = some (.string v0) ∧ W.cell? ⟨g, M, none⟩ = some (.string vM))) := fun W t => ⟨(t.cell (cell_lt c0)).trans c0, (t.cell (cell_lt cM)).trans cM⟩
    simp only [wM]
    go_cut [11] from 61 to 72 (fun v11 wx => ∃ pa va, v11 = .pointer (some ⟨pa, 0, none⟩) ∧ ∃ B, w.heap.size < B ∧ w.heap.size < pa ∧ Pb w wx w.heap.size pa B v0 vM va mid)
    case first =>
      go_region_held3 (fun W => W.cell? ⟨g, 0, none⟩ = some (.string v0) ∧ W.cell? ⟨g, M, none⟩ = some (.string vM)) (first | with_reducible exact unhide HSS _ hbd | with_reducible exact unhide HSS _ hba | with_reducible exact unhide HSS _ t5 | with_reducible exact unhide HSS _ t5a | with_reducible exact unhide HSS _ t5p | assumption | go_keep)
        (first
          | (go_at_call 76; refine (unhide CC _ (by with_reducible exact hba)).mono ?_; rintro e w5 ⟨va, rfl, hT, b5⟩; obtain ⟨va1, va2, va3, rfl⟩ := hT.shape; have t5 := hba.trans (b5.mono hba.size); have X5 := keep_blk (W := ((w.alloc (.cells #[.int .i64 0, .string ⟨#[]⟩, .string ⟨#[]⟩, .string ⟨#[]⟩, .slice none 0 0, .string ⟨#[]⟩, .bool false, .bool false, .string ⟨#[]⟩, .bool false, .slice none 0 0] 27)).alloc (.cells #[.string ⟨#[]⟩, .slice none 0 0, .string ⟨#[]⟩, .bool false, .bool false] 24)).drew) XA b5; have R5 := keep_blk (W := ((w.alloc (.cells #[.int .i64 0, .string ⟨#[]⟩, .string ⟨#[]⟩, .string ⟨#[]⟩, .slice none 0 0, .string ⟨#[]⟩, .bool false, .bool false, .string ⟨#[]⟩, .bool false, .slice none 0 0] 27)).alloc (.cells #[.string ⟨#[]⟩, .slice none 0 0, .string ⟨#[]⟩, .bool false, .bool false] 24)).drew) XR b5; have hH := hide (tx_base (C := w.heap.size + 1) hT (by first | (show w.heap.size + 1 ≤ (w.alloc _).heap.size; rw [World.size_alloc]; omega) | (show w.heap.size + 1 ≤ ((w.alloc _).alloc _).heap.size; rw [World.size_alloc, World.size_alloc]; omega))); obtain ⟨q0, q1, q2, q3, q4⟩ := cells5b X5; have frq : ∀ j, w5.frozen? ⟨w.heap.size + 1, j, none⟩ = false := (fun j => by simp [World.frozen?, X5]); have t5p := ((((t5.setCell (p := ⟨w.heap.size + 1, 0, none⟩) (by dsimp only; omega) (.string v0)).setCell (p := ⟨w.heap.size + 1, 1, none⟩) (by dsimp only; omega) (.slice va1 va2 va3)).setCell (p := ⟨w.heap.size + 1, 2, none⟩) (by dsimp only; omega) (.string vM)).setCell (p := ⟨w.heap.size + 1, 3, none⟩) (by dsimp only; omega) (.bool false)).setCell (p := ⟨w.heap.size + 1, 4, none⟩) (by dsimp only; omega) (.bool false))
          | (go_at_call 76; refine (unhide CC _ (by with_reducible exact hbd)).mono ?_; rintro e w5 ⟨va, rfl, hT, b5⟩; obtain ⟨va1, va2, va3, rfl⟩ := hT.shape; have t5 := hbd.trans (b5.mono hbd.size); have R5 := keep_blk (W := (w.alloc (.cells #[.int .i64 0, .string ⟨#[]⟩, .string ⟨#[]⟩, .string ⟨#[]⟩, .slice none 0 0, .string ⟨#[]⟩, .bool false, .bool false, .string ⟨#[]⟩, .bool false, .slice none 0 0] 27)).drew) HR b5; have hH := hide (tx_base (C := w.heap.size + 1) hT (by first | (show w.heap.size + 1 ≤ (w.alloc _).heap.size; rw [World.size_alloc]; omega) | (show w.heap.size + 1 ≤ ((w.alloc _).alloc _).heap.size; rw [World.size_alloc, World.size_alloc]; omega))); have o5 := Below.one w5 (.cells #[.string ⟨#[]⟩, .slice none 0 0, .string ⟨#[]⟩, .bool false, .bool false] 24); have t5a := t5.trans (o5.mono t5.size); have o6 := Below.one w5 (.cells #[.string v0, .slice va1 va2 va3, .string vM, .bool false, .bool false] 24); have t5p := t5.trans (o6.mono t5.size)))
      · go_wp2
        go_meet
        exact ⟨_, _, rfl, w.heap.size + 1, by omega, by have z := blk_lt24 R5; omega, keep_blk R5 (Below.one _ _), heap_new w5 _, (unhide hH).below (Below.one _ _), t5.trans ((Below.one _ _).mono t5.size), by have z := blk_lt24 R5; omega⟩
      · go_wp2
        go_meet
        have PB5 := put5 (b0 := .string v0) (b1 := .slice va1 va2 va3) (b2 := .string vM) (b3 := .bool false) (b4 := .bool false) X5
        exact ⟨_, _, rfl, w.heap.size + 1, by omega, by omega, by repeat (first | with_reducible exact R5 | refine heap_far ?_ (by omega)), PB5, tx_own (unhide hH) (fun b hb => by
          have hne : b ≠ w.heap.size + 1 := fun e => tx_ne (unhide hH) X5 (by decide) (by rw [hb, e])
          repeat (first | with_reducible rfl | refine (Below.heap_setCell _ _ _ _ hne).trans ?_)), t5p, by omega⟩
    case rest =>
      obtain ⟨pa, va, rfl, B, hB, hpa, hP⟩ := hcut
      obtain ⟨va1, va2, va3, rfl⟩ := hP.tx.shape
      have HPP := hide hP
      obtain ⟨m0, m1, m2, m3, m4, m5, m6, m7, m8, m9, m10⟩ := cells11 hP.res
      obtain ⟨k0, k1, k2, k3, k4⟩ := cells5b hP.box
      have frR := froz11 hP.res
      have frP : ∀ j, wc.frozen? ⟨pa, j, none⟩ = false := fun j => by simp [World.frozen?, hP.box]
      have HBB : Hid (w.heap.size ≤ B) := Nat.le_of_lt hB
      have hpR : ¬ pa = w.heap.size := by omega
      have hRp : ¬ w.heap.size = pa := by omega
      clear hP HR HB CC oa hba hbd XA XR HSS hB hpa cc0 ccM
      go_wp2
      refine bodyPost_ret (res_fil2 rfl _ _ w.heap.size (.int .i64 4) (.string h) (.string ⟨#[]⟩) (.string v0) (.slice va1 va2 va3) (.string vM) (.bool (!v0.toList.isEmpty)) (.bool (!vM.toList.isEmpty)) (.string ⟨#[]⟩) (.bool false) (.slice none 0 0) rfl (by
        refine put11h (a0 := (.int .i64 0)) (a1 := (.string ⟨#[]⟩)) (a2 := (.string ⟨#[]⟩)) (a3 := (.string ⟨#[]⟩)) (a4 := (.slice none 0 0)) (a5 := (.string ⟨#[]⟩)) (a6 := (.bool false)) (a7 := (.bool false)) (a8 := (.string ⟨#[]⟩)) (a9 := (.bool false)) (a10 := (.slice none 0 0)) ?_
        repeat (first | with_reducible exact (unhide HPP).res | refine heap_far ?_ (by omega)))) rfl ?_
      refine ⟨_, _, by rw [unhide HIS]; rfl, flv_noneP _ 4 h ⟨#[]⟩ v0 mid vM (!v0.toList.isEmpty) (!vM.toList.isEmpty) ⟨#[]⟩ false B w.heap.size (.slice va1 va2 va3) (unhide HBB) (tx_own (unhide HPP).tx (fun b hb => by
        have n1 : b ≠ pa := fun e => tx_ne (unhide HPP).tx (unhide HPP).box (by decide) (by rw [hb, e])
        have n2 : b ≠ w.heap.size := fun e => tx_ne (unhide HPP).tx (unhide HPP).res (by decide) (by rw [hb, e])
        repeat (first | with_reducible rfl | refine (Below.heap_setCell _ _ _ _ n2).trans ?_ | refine (Below.heap_setCell _ _ _ _ n1).trans ?_))), unhide HIV2, ?_⟩
      repeat (first | with_reducible exact (unhide HPP).bel | refine Below.setCell ?_ (by have z := (unhide HPP).ge; first | omega | (dsimp only; omega)) _)
  · clear HPRX
    have HIV2 : Hid (∀ f, itmL (nums h) k (ps.map nums) = some f → f = .mk 4 h ⟨#[]⟩ v0 mid vM true (!vM.toList.isEmpty) ⟨#[]⟩ false []) := fun f hf => by
      have z := unhide HIV f hf
      rw [q2] at z
      exact z
    go_enter Tryz.func62, Tryz.ntmps62
    go_upto_region 10 with fail
    have oa := (Below.one (w.alloc (.cells #[.int .i64 0, .string ⟨#[]⟩, .string ⟨#[]⟩, .string ⟨#[]⟩, .slice none 0 0, .string ⟨#[]⟩, .bool false, .bool false, .string ⟨#[]⟩, .bool false, .slice none 0 0] 27)) (.cells #[.string ⟨#[]⟩, .slice none 0 0, .string ⟨#[]⟩, .bool false, .bool false] 24))
    have hba : Below w.heap.size w ((w.alloc (.cells #[.int .i64 0, .string ⟨#[]⟩, .string ⟨#[]⟩, .string ⟨#[]⟩, .slice none 0 0, .string ⟨#[]⟩, .bool false, .bool false, .string ⟨#[]⟩, .bool false, .slice none 0 0] 27)).alloc (.cells #[.string ⟨#[]⟩, .slice none 0 0, .string ⟨#[]⟩, .bool false, .bool false] 24)).drew := (HB.trans (oa.mono HB.size)).drew
    have hbd : Below w.heap.size w (w.alloc (.cells #[.int .i64 0, .string ⟨#[]⟩, .string ⟨#[]⟩, .string ⟨#[]⟩, .slice none 0 0, .string ⟨#[]⟩, .bool false, .bool false, .string ⟨#[]⟩, .bool false, .slice none 0 0] 27)).drew := HB.drew
    have XA : ((w.alloc (.cells #[.int .i64 0, .string ⟨#[]⟩, .string ⟨#[]⟩, .string ⟨#[]⟩, .slice none 0 0, .string ⟨#[]⟩, .bool false, .bool false, .string ⟨#[]⟩, .bool false, .slice none 0 0] 27)).alloc (.cells #[.string ⟨#[]⟩, .slice none 0 0, .string ⟨#[]⟩, .bool false, .bool false] 24)).heap[w.heap.size + 1]? = some (.cells #[.string ⟨#[]⟩, .slice none 0 0, .string ⟨#[]⟩, .bool false, .bool false] 24) := by
      have := heap_new (w.alloc (.cells #[.int .i64 0, .string ⟨#[]⟩, .string ⟨#[]⟩, .string ⟨#[]⟩, .slice none 0 0, .string ⟨#[]⟩, .bool false, .bool false, .string ⟨#[]⟩, .bool false, .slice none 0 0] 27)) (.cells #[.string ⟨#[]⟩, .slice none 0 0, .string ⟨#[]⟩, .bool false, .bool false] 24)
      rwa [World.size_alloc] at this
    have XR := keep_blk HR oa
    have HSS : Hid (∀ (W : World), Below w.heap.size w W → (W.cell? ⟨g, 0, none⟩ = some (.string v0) ∧ W.cell? ⟨g, M, none⟩ = some (.string vM))) := fun W t => ⟨(t.cell (cell_lt c0)).trans c0, (t.cell (cell_lt cM)).trans cM⟩
    simp only [wM]
    go_cut [11] from 61 to 72 (fun v11 wx => ∃ pa va, v11 = .pointer (some ⟨pa, 0, none⟩) ∧ ∃ B, w.heap.size < B ∧ w.heap.size < pa ∧ Pb w wx w.heap.size pa B v0 vM va mid)
    case first =>
      go_region_held3 (fun W => W.cell? ⟨g, 0, none⟩ = some (.string v0) ∧ W.cell? ⟨g, M, none⟩ = some (.string vM)) (first | with_reducible exact unhide HSS _ hbd | with_reducible exact unhide HSS _ hba | with_reducible exact unhide HSS _ t5 | with_reducible exact unhide HSS _ t5a | with_reducible exact unhide HSS _ t5p | assumption | go_keep)
        (first
          | (go_at_call 76; refine (unhide CC _ (by with_reducible exact hba)).mono ?_; rintro e w5 ⟨va, rfl, hT, b5⟩; obtain ⟨va1, va2, va3, rfl⟩ := hT.shape; have t5 := hba.trans (b5.mono hba.size); have X5 := keep_blk (W := ((w.alloc (.cells #[.int .i64 0, .string ⟨#[]⟩, .string ⟨#[]⟩, .string ⟨#[]⟩, .slice none 0 0, .string ⟨#[]⟩, .bool false, .bool false, .string ⟨#[]⟩, .bool false, .slice none 0 0] 27)).alloc (.cells #[.string ⟨#[]⟩, .slice none 0 0, .string ⟨#[]⟩, .bool false, .bool false] 24)).drew) XA b5; have R5 := keep_blk (W := ((w.alloc (.cells #[.int .i64 0, .string ⟨#[]⟩, .string ⟨#[]⟩, .string ⟨#[]⟩, .slice none 0 0, .string ⟨#[]⟩, .bool false, .bool false, .string ⟨#[]⟩, .bool false, .slice none 0 0] 27)).alloc (.cells #[.string ⟨#[]⟩, .slice none 0 0, .string ⟨#[]⟩, .bool false, .bool false] 24)).drew) XR b5; have hH := hide (tx_base (C := w.heap.size + 1) hT (by first | (show w.heap.size + 1 ≤ (w.alloc _).heap.size; rw [World.size_alloc]; omega) | (show w.heap.size + 1 ≤ ((w.alloc _).alloc _).heap.size; rw [World.size_alloc, World.size_alloc]; omega))); obtain ⟨q0, q1, q2, q3, q4⟩ := cells5b X5; have frq : ∀ j, w5.frozen? ⟨w.heap.size + 1, j, none⟩ = false := (fun j => by simp [World.frozen?, X5]); have t5p := ((((t5.setCell (p := ⟨w.heap.size + 1, 0, none⟩) (by dsimp only; omega) (.string v0)).setCell (p := ⟨w.heap.size + 1, 1, none⟩) (by dsimp only; omega) (.slice va1 va2 va3)).setCell (p := ⟨w.heap.size + 1, 2, none⟩) (by dsimp only; omega) (.string vM)).setCell (p := ⟨w.heap.size + 1, 3, none⟩) (by dsimp only; omega) (.bool false)).setCell (p := ⟨w.heap.size + 1, 4, none⟩) (by dsimp only; omega) (.bool false))
          | (go_at_call 76; refine (unhide CC _ (by with_reducible exact hbd)).mono ?_; rintro e w5 ⟨va, rfl, hT, b5⟩; obtain ⟨va1, va2, va3, rfl⟩ := hT.shape; have t5 := hbd.trans (b5.mono hbd.size); have R5 := keep_blk (W := (w.alloc (.cells #[.int .i64 0, .string ⟨#[]⟩, .string ⟨#[]⟩, .string ⟨#[]⟩, .slice none 0 0, .string ⟨#[]⟩, .bool false, .bool false, .string ⟨#[]⟩, .bool false, .slice none 0 0] 27)).drew) HR b5; have hH := hide (tx_base (C := w.heap.size + 1) hT (by first | (show w.heap.size + 1 ≤ (w.alloc _).heap.size; rw [World.size_alloc]; omega) | (show w.heap.size + 1 ≤ ((w.alloc _).alloc _).heap.size; rw [World.size_alloc, World.size_alloc]; omega))); have o5 := Below.one w5 (.cells #[.string ⟨#[]⟩, .slice none 0 0, .string ⟨#[]⟩, .bool false, .bool false] 24); have t5a := t5.trans (o5.mono t5.size); have o6 := Below.one w5 (.cells #[.string v0, .slice va1 va2 va3, .string vM, .bool false, .bool false] 24); have t5p := t5.trans (o6.mono t5.size)))
      · go_wp2
        go_meet
        exact ⟨_, _, rfl, w.heap.size + 1, by omega, by have z := blk_lt24 R5; omega, keep_blk R5 (Below.one _ _), heap_new w5 _, (unhide hH).below (Below.one _ _), t5.trans ((Below.one _ _).mono t5.size), by have z := blk_lt24 R5; omega⟩
      · go_wp2
        go_meet
        have PB5 := put5 (b0 := .string v0) (b1 := .slice va1 va2 va3) (b2 := .string vM) (b3 := .bool false) (b4 := .bool false) X5
        exact ⟨_, _, rfl, w.heap.size + 1, by omega, by omega, by repeat (first | with_reducible exact R5 | refine heap_far ?_ (by omega)), PB5, tx_own (unhide hH) (fun b hb => by
          have hne : b ≠ w.heap.size + 1 := fun e => tx_ne (unhide hH) X5 (by decide) (by rw [hb, e])
          repeat (first | with_reducible rfl | refine (Below.heap_setCell _ _ _ _ hne).trans ?_)), t5p, by omega⟩
    case rest =>
      obtain ⟨pa, va, rfl, B, hB, hpa, hP⟩ := hcut
      obtain ⟨va1, va2, va3, rfl⟩ := hP.tx.shape
      have HPP := hide hP
      obtain ⟨m0, m1, m2, m3, m4, m5, m6, m7, m8, m9, m10⟩ := cells11 hP.res
      obtain ⟨k0, k1, k2, k3, k4⟩ := cells5b hP.box
      have frR := froz11 hP.res
      have frP : ∀ j, wc.frozen? ⟨pa, j, none⟩ = false := fun j => by simp [World.frozen?, hP.box]
      have HBB : Hid (w.heap.size ≤ B) := Nat.le_of_lt hB
      have hpR : ¬ pa = w.heap.size := by omega
      have hRp : ¬ w.heap.size = pa := by omega
      clear hP HR HB CC oa hba hbd XA XR HSS hB hpa cc0 ccM
      go_wp2
      refine bodyPost_ret (res_fil2 rfl _ _ w.heap.size (.int .i64 4) (.string h) (.string ⟨#[]⟩) (.string v0) (.slice va1 va2 va3) (.string vM) (.bool true) (.bool (!vM.toList.isEmpty)) (.string ⟨#[]⟩) (.bool false) (.slice none 0 0) rfl (by
        refine put11h (a0 := (.int .i64 0)) (a1 := (.string ⟨#[]⟩)) (a2 := (.string ⟨#[]⟩)) (a3 := (.string ⟨#[]⟩)) (a4 := (.slice none 0 0)) (a5 := (.string ⟨#[]⟩)) (a6 := (.bool false)) (a7 := (.bool false)) (a8 := (.string ⟨#[]⟩)) (a9 := (.bool false)) (a10 := (.slice none 0 0)) ?_
        repeat (first | with_reducible exact (unhide HPP).res | refine heap_far ?_ (by omega)))) rfl ?_
      refine ⟨_, _, by rw [unhide HIS]; rfl, flv_noneP _ 4 h ⟨#[]⟩ v0 mid vM true (!vM.toList.isEmpty) ⟨#[]⟩ false B w.heap.size (.slice va1 va2 va3) (unhide HBB) (tx_own (unhide HPP).tx (fun b hb => by
        have n1 : b ≠ pa := fun e => tx_ne (unhide HPP).tx (unhide HPP).box (by decide) (by rw [hb, e])
        have n2 : b ≠ w.heap.size := fun e => tx_ne (unhide HPP).tx (unhide HPP).res (by decide) (by rw [hb, e])
        repeat (first | with_reducible rfl | refine (Below.heap_setCell _ _ _ _ n2).trans ?_ | refine (Below.heap_setCell _ _ _ _ n1).trans ?_))), unhide HIV2, ?_⟩
      repeat (first | with_reducible exact (unhide HPP).bel | refine Below.setCell ?_ (by have z := (unhide HPP).ge; first | omega | (dsimp only; omega)) _)
  · clear HPRX
    subst q2
    have e1 := txt_yes ⟨#[]⟩
    have e5 : (⟨#[]⟩ : ByteArray).toList.isEmpty = true := by rw [emp_sz]; rfl
    have HIV2 : Hid (∀ f, itmL (nums h) k (ps.map nums) = some f → f = .mk 4 h ⟨#[]⟩ ⟨#[]⟩ mid vM false true ⟨#[]⟩ false []) := fun f hf => by
      have z := unhide HIV f hf
      rw [q3, e5] at z
      exact z
    have hM1 : M = 1 := by have := beq_iff_eq.1 q1; omega
    have cc1 := ccM
    rw [hM1] at cc1
    have z11 : (1 : Int) < (M : Int) + 1 := by omega
    clear hM1 e5
    go_enter Tryz.func62, Tryz.ntmps62
    go_upto_region 10 with fail
    have oa := (Below.one (w.alloc (.cells #[.int .i64 0, .string ⟨#[]⟩, .string ⟨#[]⟩, .string ⟨#[]⟩, .slice none 0 0, .string ⟨#[]⟩, .bool false, .bool false, .string ⟨#[]⟩, .bool false, .slice none 0 0] 27)) (.cells #[.string ⟨#[]⟩, .slice none 0 0, .string ⟨#[]⟩, .bool false, .bool false] 24))
    have hba : Below w.heap.size w ((w.alloc (.cells #[.int .i64 0, .string ⟨#[]⟩, .string ⟨#[]⟩, .string ⟨#[]⟩, .slice none 0 0, .string ⟨#[]⟩, .bool false, .bool false, .string ⟨#[]⟩, .bool false, .slice none 0 0] 27)).alloc (.cells #[.string ⟨#[]⟩, .slice none 0 0, .string ⟨#[]⟩, .bool false, .bool false] 24)).drew := (HB.trans (oa.mono HB.size)).drew
    have hbd : Below w.heap.size w (w.alloc (.cells #[.int .i64 0, .string ⟨#[]⟩, .string ⟨#[]⟩, .string ⟨#[]⟩, .slice none 0 0, .string ⟨#[]⟩, .bool false, .bool false, .string ⟨#[]⟩, .bool false, .slice none 0 0] 27)).drew := HB.drew
    have XA : ((w.alloc (.cells #[.int .i64 0, .string ⟨#[]⟩, .string ⟨#[]⟩, .string ⟨#[]⟩, .slice none 0 0, .string ⟨#[]⟩, .bool false, .bool false, .string ⟨#[]⟩, .bool false, .slice none 0 0] 27)).alloc (.cells #[.string ⟨#[]⟩, .slice none 0 0, .string ⟨#[]⟩, .bool false, .bool false] 24)).heap[w.heap.size + 1]? = some (.cells #[.string ⟨#[]⟩, .slice none 0 0, .string ⟨#[]⟩, .bool false, .bool false] 24) := by
      have := heap_new (w.alloc (.cells #[.int .i64 0, .string ⟨#[]⟩, .string ⟨#[]⟩, .string ⟨#[]⟩, .slice none 0 0, .string ⟨#[]⟩, .bool false, .bool false, .string ⟨#[]⟩, .bool false, .slice none 0 0] 27)) (.cells #[.string ⟨#[]⟩, .slice none 0 0, .string ⟨#[]⟩, .bool false, .bool false] 24)
      rwa [World.size_alloc] at this
    have XR := keep_blk HR oa
    have HSS : Hid (∀ (W : World), Below w.heap.size w W → (W.cell? ⟨g, 0, none⟩ = some (.string ⟨#[]⟩) ∧ W.cell? ⟨g, M, none⟩ = some (.string vM))) := fun W t => ⟨(t.cell (cell_lt c0)).trans c0, (t.cell (cell_lt cM)).trans cM⟩
    simp only [wM]
    go_cut [11] from 61 to 72 (fun v11 wx => ∃ pa va, v11 = .pointer (some ⟨pa, 0, none⟩) ∧ ∃ B, w.heap.size < B ∧ w.heap.size < pa ∧ Pb w wx w.heap.size pa B ⟨#[]⟩ vM va mid)
    case first =>
      go_region_held3 (fun W => W.cell? ⟨g, 0, none⟩ = some (.string ⟨#[]⟩) ∧ W.cell? ⟨g, M, none⟩ = some (.string vM)) (first | with_reducible exact unhide HSS _ hbd | with_reducible exact unhide HSS _ hba | with_reducible exact unhide HSS _ t5 | with_reducible exact unhide HSS _ t5a | with_reducible exact unhide HSS _ t5p | assumption | go_keep)
        (first
          | (go_at_call 76; refine (unhide CC _ (by with_reducible exact hba)).mono ?_; rintro e w5 ⟨va, rfl, hT, b5⟩; obtain ⟨va1, va2, va3, rfl⟩ := hT.shape; have t5 := hba.trans (b5.mono hba.size); have X5 := keep_blk (W := ((w.alloc (.cells #[.int .i64 0, .string ⟨#[]⟩, .string ⟨#[]⟩, .string ⟨#[]⟩, .slice none 0 0, .string ⟨#[]⟩, .bool false, .bool false, .string ⟨#[]⟩, .bool false, .slice none 0 0] 27)).alloc (.cells #[.string ⟨#[]⟩, .slice none 0 0, .string ⟨#[]⟩, .bool false, .bool false] 24)).drew) XA b5; have R5 := keep_blk (W := ((w.alloc (.cells #[.int .i64 0, .string ⟨#[]⟩, .string ⟨#[]⟩, .string ⟨#[]⟩, .slice none 0 0, .string ⟨#[]⟩, .bool false, .bool false, .string ⟨#[]⟩, .bool false, .slice none 0 0] 27)).alloc (.cells #[.string ⟨#[]⟩, .slice none 0 0, .string ⟨#[]⟩, .bool false, .bool false] 24)).drew) XR b5; have hH := hide (tx_base (C := w.heap.size + 1) hT (by first | (show w.heap.size + 1 ≤ (w.alloc _).heap.size; rw [World.size_alloc]; omega) | (show w.heap.size + 1 ≤ ((w.alloc _).alloc _).heap.size; rw [World.size_alloc, World.size_alloc]; omega))); obtain ⟨q0, q1, q2, q3, q4⟩ := cells5b X5; have frq : ∀ j, w5.frozen? ⟨w.heap.size + 1, j, none⟩ = false := (fun j => by simp [World.frozen?, X5]); have t5p := ((((t5.setCell (p := ⟨w.heap.size + 1, 0, none⟩) (by dsimp only; omega) (.string ⟨#[]⟩)).setCell (p := ⟨w.heap.size + 1, 1, none⟩) (by dsimp only; omega) (.slice va1 va2 va3)).setCell (p := ⟨w.heap.size + 1, 2, none⟩) (by dsimp only; omega) (.string vM)).setCell (p := ⟨w.heap.size + 1, 3, none⟩) (by dsimp only; omega) (.bool false)).setCell (p := ⟨w.heap.size + 1, 4, none⟩) (by dsimp only; omega) (.bool false))
          | (go_at_call 76; refine (unhide CC _ (by with_reducible exact hbd)).mono ?_; rintro e w5 ⟨va, rfl, hT, b5⟩; obtain ⟨va1, va2, va3, rfl⟩ := hT.shape; have t5 := hbd.trans (b5.mono hbd.size); have R5 := keep_blk (W := (w.alloc (.cells #[.int .i64 0, .string ⟨#[]⟩, .string ⟨#[]⟩, .string ⟨#[]⟩, .slice none 0 0, .string ⟨#[]⟩, .bool false, .bool false, .string ⟨#[]⟩, .bool false, .slice none 0 0] 27)).drew) HR b5; have hH := hide (tx_base (C := w.heap.size + 1) hT (by first | (show w.heap.size + 1 ≤ (w.alloc _).heap.size; rw [World.size_alloc]; omega) | (show w.heap.size + 1 ≤ ((w.alloc _).alloc _).heap.size; rw [World.size_alloc, World.size_alloc]; omega))); have o5 := Below.one w5 (.cells #[.string ⟨#[]⟩, .slice none 0 0, .string ⟨#[]⟩, .bool false, .bool false] 24); have t5a := t5.trans (o5.mono t5.size); have o6 := Below.one w5 (.cells #[.string ⟨#[]⟩, .slice va1 va2 va3, .string vM, .bool false, .bool false] 24); have t5p := t5.trans (o6.mono t5.size)))
      · go_wp2
        go_meet
        exact ⟨_, _, rfl, w.heap.size + 1, by omega, by have z := blk_lt24 R5; omega, keep_blk R5 (Below.one _ _), heap_new w5 _, (unhide hH).below (Below.one _ _), t5.trans ((Below.one _ _).mono t5.size), by have z := blk_lt24 R5; omega⟩
      · go_wp2
        go_meet
        have PB5 := put5 (b0 := .string ⟨#[]⟩) (b1 := .slice va1 va2 va3) (b2 := .string vM) (b3 := .bool false) (b4 := .bool false) X5
        exact ⟨_, _, rfl, w.heap.size + 1, by omega, by omega, by repeat (first | with_reducible exact R5 | refine heap_far ?_ (by omega)), PB5, tx_own (unhide hH) (fun b hb => by
          have hne : b ≠ w.heap.size + 1 := fun e => tx_ne (unhide hH) X5 (by decide) (by rw [hb, e])
          repeat (first | with_reducible rfl | refine (Below.heap_setCell _ _ _ _ hne).trans ?_)), t5p, by omega⟩
    case rest =>
      obtain ⟨pa, va, rfl, B, hB, hpa, hP⟩ := hcut
      obtain ⟨va1, va2, va3, rfl⟩ := hP.tx.shape
      have HPP := hide hP
      obtain ⟨m0, m1, m2, m3, m4, m5, m6, m7, m8, m9, m10⟩ := cells11 hP.res
      obtain ⟨k0, k1, k2, k3, k4⟩ := cells5b hP.box
      have frR := froz11 hP.res
      have frP : ∀ j, wc.frozen? ⟨pa, j, none⟩ = false := fun j => by simp [World.frozen?, hP.box]
      have HBB : Hid (w.heap.size ≤ B) := Nat.le_of_lt hB
      have hpR : ¬ pa = w.heap.size := by omega
      have hRp : ¬ w.heap.size = pa := by omega
      clear hP HR HB CC oa hba hbd XA XR HSS hB hpa cc0 ccM
      go_wp2
      refine bodyPost_ret (res_fil2 rfl _ _ w.heap.size (.int .i64 4) (.string h) (.string ⟨#[]⟩) (.string ⟨#[]⟩) (.slice va1 va2 va3) (.string vM) (.bool false) (.bool true) (.string ⟨#[]⟩) (.bool false) (.slice none 0 0) rfl (by
        refine put11h (a0 := (.int .i64 0)) (a1 := (.string ⟨#[]⟩)) (a2 := (.string ⟨#[]⟩)) (a3 := (.string ⟨#[]⟩)) (a4 := (.slice none 0 0)) (a5 := (.string ⟨#[]⟩)) (a6 := (.bool false)) (a7 := (.bool false)) (a8 := (.string ⟨#[]⟩)) (a9 := (.bool false)) (a10 := (.slice none 0 0)) ?_
        repeat (first | with_reducible exact (unhide HPP).res | refine heap_far ?_ (by omega)))) rfl ?_
      refine ⟨_, _, by rw [unhide HIS]; rfl, flv_noneP _ 4 h ⟨#[]⟩ ⟨#[]⟩ mid vM false true ⟨#[]⟩ false B w.heap.size (.slice va1 va2 va3) (unhide HBB) (tx_own (unhide HPP).tx (fun b hb => by
        have n1 : b ≠ pa := fun e => tx_ne (unhide HPP).tx (unhide HPP).box (by decide) (by rw [hb, e])
        have n2 : b ≠ w.heap.size := fun e => tx_ne (unhide HPP).tx (unhide HPP).res (by decide) (by rw [hb, e])
        repeat (first | with_reducible rfl | refine (Below.heap_setCell _ _ _ _ n2).trans ?_ | refine (Below.heap_setCell _ _ _ _ n1).trans ?_))), unhide HIV2, ?_⟩
      repeat (first | with_reducible exact (unhide HPP).bel | refine Below.setCell ?_ (by have z := (unhide HPP).ge; first | omega | (dsimp only; omega)) _)

end Go.Proofs.YthbldkkjjjmegaaGreatDoor
