/- The program's copied of layer 16: elements with each list in them, anew. -/
import Derived.Test.YtcboggoindhmkaaDd16
namespace Go.Proofs.Ytcboggoindhmkaa
open Go.RowKit

theorem ElP.of {P : Nat → Prop} {w : World} {e : El} {ad : Option Addr} {cap : Nat} (h : EsP P w (.slice ad e.els.length cap) e.els) : ElP P w e (.agg #[.int .i64 e.cls, .bool e.made, .int .i64 e.num, .string e.con, .slice ad e.els.length cap]) := by
  obtain ⟨c, m, n, s, els⟩ := e
  obtain ⟨ad', cap', hv, hn, hx⟩ := h
  cases hv
  simp only [ElP]
  exact ⟨ad, cap, rfl, hn, hx⟩
theorem ElP.L.of {P : Nat → Prop} {w : World} {g : Nat} : ∀ (l : List El) (off : Nat), (∀ j, j < l.length → ∃ ad cap, w.cell? ⟨g, off + j * 5, none⟩ = some (.int .i64 (l.getD j el0).cls) ∧ w.cell? ⟨g, off + j * 5 + 1, none⟩ = some (.bool (l.getD j el0).made) ∧ w.cell? ⟨g, off + j * 5 + 2, none⟩ = some (.int .i64 (l.getD j el0).num) ∧ w.cell? ⟨g, off + j * 5 + 3, none⟩ = some (.string (l.getD j el0).con) ∧ w.cell? ⟨g, off + j * 5 + 4, none⟩ = some (.slice ad (l.getD j el0).els.length cap) ∧ EsP P w (.slice ad (l.getD j el0).els.length cap) (l.getD j el0).els) → ElP.L P w l g off
  | [], _, _ => by simp only [ElP.L]
  | e :: t, off, h => by
    simp only [ElP.L]
    refine ⟨?_, ElP.L.of t (off + 5) fun j hj => ?_⟩
    · obtain ⟨ad, cap, h0, h1, h2, h3, h4, hv⟩ := h 0 (by simp)
      simp only [Nat.zero_mul, Nat.add_zero, List.getD_cons_zero] at h0 h1 h2 h3 h4 hv
      exact ⟨_, _, _, _, _, h0, h1, h2, h3, h4, ElP.of hv⟩
    · have := h (j + 1) (by simpa using hj)
      rw [show off + (j + 1) * 5 = off + 5 + j * 5 by omega] at this
      simpa only [List.getD_cons_succ] using this
/-- A row of elements that is filled: up to i with rows of its own. -/
structure Cr (B g i : Nat) (l : List El) (w0 w : World) : Prop where
  lo : B ≤ g
  hi : g < w.heap.size
  fr : ∀ m, w.frozen? ⟨g, m, none⟩ = false
  cs : ∀ j, j < l.length → ∃ ad cap, w.cell? ⟨g, j * 5, none⟩ = some (.int .i64 (l.getD j el0).cls) ∧ w.cell? ⟨g, j * 5 + 1, none⟩ = some (.bool (l.getD j el0).made) ∧ w.cell? ⟨g, j * 5 + 2, none⟩ = some (.int .i64 (l.getD j el0).num) ∧ w.cell? ⟨g, j * 5 + 3, none⟩ = some (.string (l.getD j el0).con) ∧ w.cell? ⟨g, j * 5 + 4, none⟩ = some (.slice ad (l.getD j el0).els.length cap) ∧ (j < i → EsP (fun b => B ≤ b ∧ b < w.heap.size ∧ b ≠ g) w (.slice ad (l.getD j el0).els.length cap) (l.getD j el0).els) ∧ (i ≤ j → ElsV w0 (.slice ad (l.getD j el0).els.length cap) (l.getD j el0).els)
theorem Cr.keep {B g i : Nat} {l : List El} {w0 w w2 : World} (h : Cr B g i l w0 w) (hb : Below w.heap.size w w2) : Cr B g i l w0 w2 := by
  have hs := hb.size
  refine ⟨h.lo, Nat.lt_of_lt_of_le h.hi hs, fun m => (hb.frozen (p := ⟨g, m, none⟩) h.hi).trans (h.fr m), fun j hj => ?_⟩
  obtain ⟨ad, cap, h0, h1, h2, h3, h4, ha, hc⟩ := h.cs j hj
  exact ⟨ad, cap, (hb.cell (cell_lt h0)).trans h0, (hb.cell (cell_lt h1)).trans h1, (hb.cell (cell_lt h2)).trans h2, (hb.cell (cell_lt h3)).trans h3, (hb.cell (cell_lt h4)).trans h4, fun hi => (ha hi).below hb fun b hb' => ⟨hb'.1, by omega, hb'.2.2⟩, hc⟩
theorem cell_far {w : World} {g m : Nat} {v : Value} {p : Addr} (h : p ≠ ⟨g, m, none⟩) : (w.setCell ⟨g, m, none⟩ v).cell? p = w.cell? p := World.cell?_setCell_other _ _ _ _ (fun e => h e.symm)
theorem Cr.store {B g i : Nat} {l : List El} {w0 w : World} {ad : Option Addr} {cap : Nat} (h : Cr B g i l w0 w) (hi : i < l.length) (hv : EsP (fun b => B ≤ b ∧ b < w.heap.size ∧ b ≠ g) w (.slice ad (l.getD i el0).els.length cap) (l.getD i el0).els) :
    Cr B g (i + 1) l w0 (w.setCell ⟨g, i * 5 + 4, none⟩ (.slice ad (l.getD i el0).els.length cap)) := by
  have hsz : (w.setCell ⟨g, i * 5 + 4, none⟩ (.slice ad (l.getD i el0).els.length cap)).heap.size = w.heap.size := by simp
  have far : ∀ j k, j * 5 + k ≠ i * 5 + 4 → (w.setCell ⟨g, i * 5 + 4, none⟩ (.slice ad (l.getD i el0).els.length cap)).cell? ⟨g, j * 5 + k, none⟩ = w.cell? ⟨g, j * 5 + k, none⟩ := fun j k hne => cell_far (fun e => hne (congrArg Addr.off e))
  have kp : ∀ b off v, (B ≤ b ∧ b < w.heap.size ∧ b ≠ g) → w.cell? ⟨b, off, none⟩ = some v → (w.setCell ⟨g, i * 5 + 4, none⟩ (.slice ad (l.getD i el0).els.length cap)).cell? ⟨b, off, none⟩ = some v := fun b off v hb hc => (cell_far (by intro e; cases e; exact hb.2.2 rfl)).trans hc
  have mv : ∀ {v : Value} {l' : List El}, EsP (fun b => B ≤ b ∧ b < w.heap.size ∧ b ≠ g) w v l' → EsP (fun b => B ≤ b ∧ b < (w.setCell ⟨g, i * 5 + 4, none⟩ (.slice ad (l.getD i el0).els.length cap)).heap.size ∧ b ≠ g) (w.setCell ⟨g, i * 5 + 4, none⟩ (.slice ad (l.getD i el0).els.length cap)) v l' := fun {v l'} h' => by
    rw [hsz]
    obtain ⟨ad', cap', hv', hn, hx⟩ := h'
    refine ⟨ad', cap', hv', hn, ?_⟩
    rcases hx with h0 | ⟨b, off, ha, hg, hl⟩
    · exact .inl h0
    · exact .inr ⟨b, off, ha, hg, ElP.L.kept (fun _ h => h) kp _ b off hg hl⟩
  refine ⟨h.lo, by rw [hsz]; exact h.hi, fun m => (by rw [World.frozen?_setCell]; exact h.fr m), fun j hj => ?_⟩
  by_cases hji : j = i
  · subst hji
    obtain ⟨ad', cap', h0, h1, h2, h3, h4, _, _⟩ := h.cs j hj
    exact ⟨ad, cap, (far j 0 (by omega)).trans h0, (far j 1 (by omega)).trans h1, (far j 2 (by omega)).trans h2, (far j 3 (by omega)).trans h3, World.cell?_setCell_same _ _ _ h4, fun _ => mv hv, fun hh => by omega⟩
  · obtain ⟨ad', cap', h0, h1, h2, h3, h4, ha, hc⟩ := h.cs j hj
    exact ⟨ad', cap', (far j 0 (by omega)).trans h0, (far j 1 (by omega)).trans h1, (far j 2 (by omega)).trans h2, (far j 3 (by omega)).trans h3, (far j 4 (by omega)).trans h4, fun hh => mv (ha (by omega)), fun hh => hc (by omega)⟩
theorem Cr.done {B g cap : Nat} {l : List El} {w0 w : World} (h : Cr B g l.length l w0 w) (hl : l.length ≤ 9223372036854775807) : EsP (In B w) w (.slice (some ⟨g, 0, none⟩) l.length cap) l := by
  refine ⟨_, cap, rfl, hl, .inr ⟨g, 0, rfl, ⟨h.lo, h.hi⟩, ElP.L.of l 0 fun j hj => ?_⟩⟩
  obtain ⟨ad', cap', h0, h1, h2, h3, h4, ha, _⟩ := h.cs j hj
  rw [Nat.zero_add]
  refine ⟨ad', cap', h0, h1, h2, h3, h4, ?_⟩
  obtain ⟨a, c, hv', hn, hx⟩ := ha hj
  refine ⟨a, c, hv', hn, ?_⟩
  rcases hx with h0 | ⟨b, off, ha, hg, hl⟩
  · exact .inl h0
  · exact .inr ⟨b, off, ha, ⟨hg.1, hg.2.1⟩, ElP.L.kept (fun _ h => ⟨h.1, h.2.1⟩) (fun _ _ _ _ h => h) _ b off hg hl⟩
theorem Cr.start {B g N cap : Nat} {l : List El} {cs : List Value} {w0 w : World} {b off : Nat} (ho : w.ownsRow B 26 5 (.slice (some ⟨g, 0, none⟩) N cap) N cs) (hc : cellsV w0 l b off cs) : Cr B g 0 l w0 w := by
  have hl := own_block ho g rfl
  have hcl : ∀ (j : Nat) u, cs[j]? = some u → w.cell? ⟨g, j, none⟩ = some u := fun j u hu => by
    have := World.ownsRow.cells ho (g := g) rfl j u hu
    rwa [add_zero3] at this
  have hlt : g < w.heap.size := by
    rcases ho.2 with ⟨hv, _⟩ | ⟨g', cap', cur, hv, _, hg, _⟩
    · cases hv
    · cases hv; exact (Array.getElem?_eq_some_iff.1 hg).1
  refine ⟨hl, hlt, fun m => World.ownsRow.frozenAt ho m, fun j hj => ?_⟩
  obtain ⟨ad, cap', h0, h1, h2, h3, h4, hv⟩ := hc.at j hj
  exact ⟨ad, cap', hcl _ _ h0, hcl _ _ h1, hcl _ _ h2, hcl _ _ h3, hcl _ _ h4, fun h => absurd h (Nat.not_lt_zero _), fun _ => hv⟩
/-- Copied copies these elements. -/
def CopOk (l : List El) : Prop := l.length ≤ 1000 → ∀ (v : Value) (w : World), ElsV w v l → Calls Try.prog 52 #[v] w fun r w' => ∃ v', r = .returned v' ∧ EsP (In w.heap.size w') w' v' l ∧ Below w.heap.size w w'
set_option maxHeartbeats 1600000 in
theorem copied_of (l : List El) (ih : ∀ e, e ∈ l → CopOk e.els) (hs : ∀ e, e ∈ l → e.els.length ≤ 1000) : CopOk l := by
  intro hlen v w hV
  have mx : Try.prog.follows .mixedOrders = true := by kernel_rfl
  have HCl := hide (clone5_any v l w hlen hV)
  obtain ⟨ad, cap, rfl, hn, _⟩ := hV
  by_cases h0 : l = []
  · subst h0
    clear ih hs
    go_enter Try.func52, Try.ntmps52
    go_wp2_with (go_at_call 51; refine (unhide HCl).mono ?_; rintro r w1 ⟨v1, cs1, rfl, ho1, b1, _⟩; obtain ⟨a1, c1, rfl⟩ : ∃ a c, v1 = .slice a 0 c := by (rcases ho1.2 with ⟨hv, _⟩ | ⟨_, c, _, hv, _⟩; exact ⟨_, _, hv⟩; exact ⟨_, _, hv⟩))
    refine wp_loop_rounds 1 ?_
    rw [rounds_succ]
    go_wp2
    go_ret
    exact ⟨_, rfl, ⟨a1, c1, rfl, Nat.zero_le _, .inl rfl⟩, b1⟩
  · have hpos : 0 < l.length := List.length_pos_iff.2 h0
    have HC2 : Hid (Calls Try.prog 51 #[.slice ad l.length cap] w fun e w' => ∃ g c, e = .returned (.slice (some ⟨g, 0, none⟩) l.length c) ∧ Cr w.heap.size g 0 l w w' ∧ Below w.heap.size w w') := by
      refine (unhide HCl).mono ?_
      rintro r w1 ⟨v1, cs1, rfl, ho1, b1, hcs⟩
      obtain ⟨b, off, hcs⟩ := hcs.resolve_left h0
      have ho2 := ho1
      rcases ho1.2 with ⟨_, hv⟩ | ⟨g, c, _, hv, _⟩
      · omega
      · subst hv
        exact ⟨g, c, rfl, Cr.start ho2 hcs, b1⟩
    have HIH := hide ih
    have HS := hide hs
    clear HCl ih hs h0
    go_enter Try.func52, Try.ntmps52
    go_wp2_with (go_at_call 51; refine (unhide HC2).mono ?_; rintro r w1 ⟨g, c, rfl, CR1, b1⟩; clear HC2)
    go_loopw [10] (fun vi wr => ∃ i : Nat, i ≤ l.length ∧ vi = .int .i64 (i : Int) ∧ Cr w.heap.size g i l w wr ∧ Below w.heap.size w wr) (fun i _ => l.length - (intOf i).toNat)
    case atStart => exact ⟨0, Nat.zero_le _, rfl, CR1, b1⟩
    case round =>
      obtain ⟨i, hi, rfl, CR, bw⟩ := hrel
      by_cases hlt : i < l.length
      · have hzl : (i : Int) < (l.length : Int) := by omega
        have hz0 : (0 : Int) ≤ (i : Int) := by omega
        obtain ⟨ad', cap', k0, k1, k2, k3, k4, _, hv⟩ := CR.cs i hlt
        have hmem := getD_mem l i hlt
        have g1 := (Gr.one wr (bxE (l.getD i el0) ad' cap')).below
        have CI := hide (unhide HIH _ hmem (unhide HS _ hmem) _ (wr.alloc (bxE (l.getD i el0) ad' cap')) (((hv (Nat.le_refl _)).below bw).below g1))
        have CR2 := hide (CR.keep g1)
        have HSZ : Hid ((wr.alloc (bxE (l.getD i el0) ad' cap')).heap.size = wr.heap.size + 1) := by show _ = _; simp
        have HGI := hide CR.hi
        have HGL := hide CR.lo
        have HST := hide (fun (w4 : World) (a : Option Addr) (n : Nat) (h : Cr w.heap.size g i l w w4) hv => Cr.store (ad := a) (cap := n) h hlt hv)
        have BW := hide bw
        have HG1 := hide g1
        have HCC := hide (fun (w4 : World) (h : Cr w.heap.size g i l w w4) => h.cs i hlt)
        clear HIH HS CR hv hmem CR1 bw g1
        generalize l.getD i el0 = e at *
        go_wp2_with (go_at_call 52; refine (unhide CI).mono ?_; rintro r w2 ⟨v2, rfl, p2, b2⟩; obtain ⟨ad2, cap2, rfl⟩ := p2.shape; have CR3 := hide ((unhide CR2).keep b2); obtain ⟨ad9, cap9, _, _, _, _, q4, _, _⟩ := unhide HCC _ (unhide CR3); have fz := (unhide CR3).fr (i * 5 + 4); have P2 := hide p2; have B2 := hide b2; clear p2 b2)
        go_roundw
        case rel =>
          have hs2 := (unhide B2).size
          have hx := unhide HSZ
          have hgi := unhide HGI
          refine ⟨i + 1, by omega, by go_num, unhide HST _ _ _ (unhide CR3) ((unhide P2).below (Below.refl _ _) fun b hb => ⟨?_, hb.2, ?_⟩), ?_⟩
          · have := (unhide BW).size
            have := hb.1
            omega
          · have := hb.1
            omega
          · exact (below_next (below_next (unhide BW) (unhide HG1)) (unhide B2)).setCell (unhide HGL) _
        case measure => simp [intOf]; omega
      · have hzl : ¬ (i : Int) < (l.length : Int) := by omega
        have hii : i = l.length := by omega
        have HD := hide (Cr.done (cap := c) (hii ▸ CR) hn)
        clear HIH HS CR CR1 hii
        go_wp2
        go_ret
        exact ⟨_, rfl, unhide HD, bw⟩
/-- No list of elements in it is longer than a thousand. -/
def fewN : El → Prop
  | .mk _ _ _ _ els => els.length ≤ 1000 ∧ L els
  where
  L : List El → Prop
  | [] => True
  | e :: t => fewN e ∧ L t
theorem fewN_mem : ∀ (l : List El), fewN.L l → ∀ e, e ∈ l → fewN e
  | [], _, e, he => absurd he (by simp)
  | a :: t, h, e, he => by
    simp only [fewN.L] at h
    rcases List.mem_cons.1 he with rfl | h2
    · exact h.1
    · exact fewN_mem t h.2 e h2
theorem fewN_els {e : El} (h : fewN e) : e.els.length ≤ 1000 ∧ fewN.L e.els := by
  cases e with
  | mk c m n s els => simpa only [fewN] using h
theorem copied_el (e : El) : fewN e → CopOk e.els := by
  induction e using El.ind with
  | h c m n s els ih =>
    intro hf
    have h := fewN_els hf
    exact copied_of els (fun e he => ih e he (fewN_mem els h.2 e he)) fun e he => (fewN_els (fewN_mem els h.2 e he)).1
theorem copied_any (l : List El) (hl : l.length ≤ 1000) (hf : fewN.L l) (v : Value) (w : World) (hV : ElsV w v l) : Calls Try.prog 52 #[v] w fun r w' => ∃ v', r = .returned v' ∧ EsP (In w.heap.size w') w' v' l ∧ Below w.heap.size w w' :=
  copied_of l (fun e he => copied_el e (fewN_mem l hf e he)) (fun e he => (fewN_els (fewN_mem l hf e he)).1) hl v w hV
set_option maxHeartbeats 800000 in
theorem fresh_any (l : List El) (hl : l.length ≤ 1000) (hf : fewN.L l) (hh : hgt.L l ≤ 65536) (v : Value) (w : World) (hV : ElsV w v l) : Calls Try.prog 40 #[v] w fun r w' => ∃ v', r = .returned v' ∧ EsP (In w.heap.size w') w' v' l ∧ Below w.heap.size w w' := by
  have H1 := hide (deeper_any 65536 (Nat.le_refl _) l v w hh hV)
  have H2 := hide (fun w2 (g : Gr w w2) => copied_any l hl hf v w2 (hV.below g.below))
  obtain ⟨ad, cap, rfl, _⟩ := hV
  clear hh hf hl
  go_enter Try.func40, Try.ntmps40
  go_wp2_with (first
    | (go_at_call 52; refine (unhide H2 _ g1).mono ?_; rintro r w2 ⟨v2, rfl, p2, b2⟩)
    | (go_at_call 50; refine (unhide H1).mono ?_; rintro r w1 ⟨rfl, g1⟩))
  go_ret
  exact ⟨_, rfl, p2.below (Below.refl _ _) fun g hg => ⟨Nat.le_trans g1.size hg.1, hg.2⟩, below_next g1.below b2⟩
end Go.Proofs.Ytcboggoindhmkaa
