/- What the landed calls of layer 24 answer, and the probe. (By gen_aw.py.) -/
import Derived.Test.YthbldkkjjjmegaaGreatDoorM07
import Derived.Test.YthbldkkjjjmegaaGreatDoorM08
namespace Go.Proofs.YthbldkkjjjmegaaGreatDoor
set_option maxRecDepth 100000
open Go.RowKit

/-- What the landed calls answer. -/
structure C24 : Prop where
  chk : ∀ (e : Fl) (x : Value) (w : World), FlV w e x → smF e → Calls Tryz.prog 9 #[x] w fun y w' => y = .returned (.int .i64 (chkF e)) ∧ Below w.heap.size w w'
  dep : ∀ (e : Fl) (x : Value) (w : World), FlV w e x → smF e → Calls Tryz.prog 11 #[x] w fun y w' => y = .returned (.int .i64 (deepF e 9)) ∧ Below w.heap.size w w'
  cnt : ∀ (e : Fl) (x : Value) (w : World), FlV w e x → smF e → Calls Tryz.prog 13 #[x] w fun y w' => y = .returned (.int .i64 (countF e)) ∧ Below w.heap.size w w'
  sho : ∀ (e : Fl) (x : Value) (w : World), FlV w e x → smF e → Calls Tryz.prog 7 #[x] w fun y w' => y = .returned (.tuple #[.string (shoF e), .int .i64 (chkF e)]) ∧ Below w.heap.size w w'
  par : ∀ (s : ByteArray) (w : World), Calls Tryz.prog 15 #[.string s] w fun y w' => ∃ x, y = .returned (.tuple #[x, .int .i64 (parE24 s)]) ∧ FlV w' (parF s) x ∧ Below w.heap.size w w'
  sam : ∀ (e e' : Fl) (x x' : Value) (w : World), FlV w e x → FlV w e' x' → smF e → smF e' → Calls Tryz.prog 18 #[x, x'] w fun y w' => y = .returned (.bool (sameF e e')) ∧ Below w.heap.size w w'
theorem blk_lt24 {w : World} {g : Nat} {o : Obj} (h : w.heap[g]? = some o) : g < w.heap.size := (Array.getElem?_eq_some_iff.1 h).1
/-- The cells of a box that lies so. -/
theorem cells11 {W : World} {B : Nat} {a0 a1 a2 a3 a4 a5 a6 a7 a8 a9 a10 : Value} {T : TypeId} (h : W.heap[B]? = some (.cells #[a0, a1, a2, a3, a4, a5, a6, a7, a8, a9, a10] T)) : W.cell? ⟨B, 0, none⟩ = some a0 ∧ W.cell? ⟨B, 1, none⟩ = some a1 ∧ W.cell? ⟨B, 2, none⟩ = some a2 ∧ W.cell? ⟨B, 3, none⟩ = some a3 ∧ W.cell? ⟨B, 4, none⟩ = some a4 ∧ W.cell? ⟨B, 5, none⟩ = some a5 ∧ W.cell? ⟨B, 6, none⟩ = some a6 ∧ W.cell? ⟨B, 7, none⟩ = some a7 ∧ W.cell? ⟨B, 8, none⟩ = some a8 ∧ W.cell? ⟨B, 9, none⟩ = some a9 ∧ W.cell? ⟨B, 10, none⟩ = some a10 := by
  refine ⟨?_, ?_, ?_, ?_, ?_, ?_, ?_, ?_, ?_, ?_, ?_⟩ <;> simp [World.cell?, h]
theorem keep_blk {W W2 : World} {B : Nat} {o : Obj} (h : W.heap[B]? = some o) (hb : Below W.heap.size W W2) : W2.heap[B]? = some o := (hb.block B (blk_lt24 h)).trans h
/-- Rows of texts are short where a check has nothing against a filter. -/
theorem chk_small (e : Fl) : allF e = true → smF e := by
  induction e using Fl.ind with
  | h k n v i a f hi hf r d kids ih =>
    intro h
    simp only [allF, Bool.and_eq_true] at h
    simp only [smF]
    refine ⟨?_, ?_⟩
    · have h1 := h.2
      have ha : a = [] ∨ okPc i a f hi hf = true := by
        unfold oneF oneQ at h1
        by_cases k01 : k = 0 ∨ k = 1
        · rw [if_pos k01] at h1; exact .inl ((bar_parts h1).2.2.2 rfl).2.1
        · rw [if_neg k01] at h1
          by_cases k2 : k = 2
          · rw [if_pos k2, Bool.and_eq_true] at h1; exact .inl ((bar_parts h1.1).2.2.2 rfl).2.1
          · rw [if_neg k2] at h1
            split at h1
            · cases h1
            · split at h1
              · rw [Bool.and_eq_true] at h1; exact .inl ((bar_parts h1.1).2.2.2 rfl).2.1
              · split at h1
                · rw [Bool.and_eq_true] at h1; exact .inl ((bar_parts h1.1).2.2.2 rfl).2.1
                · split at h1
                  · rw [Bool.and_eq_true, Bool.and_eq_true] at h1
                    have := h1.2.2
                    unfold finPc at this
                    rw [Bool.and_eq_true] at this
                    exact .inr this.1
                  · split at h1
                    · rw [Bool.and_eq_true] at h1; exact .inl ((bar_parts h1.1).2.2.2 rfl).2.1
                    · cases h1
      rcases ha with rfl | ha
      · simp
      · unfold okPc at ha
        simp only [Bool.and_eq_true, decide_eq_true_eq] at ha
        omega
    · have : ∀ l : List Fl, (∀ e, e ∈ l → e ∈ kids) → allF.L l = true → smF.L l := fun l => by
        induction l with
        | nil => intro _ _; simp only [smF.L]
        | cons a t iht =>
          intro hl h2
          simp only [allF.L, Bool.and_eq_true] at h2
          simp only [smF.L]
          exact ⟨ih a (hl a (by simp)) h2.1, iht (fun e he => hl e (by simp [he])) h2.2⟩
      exact this kids (fun _ h => h) h.1
theorem smF_fl0 : smF fl0 := by unfold fl0; simp [smF, smF.L]
theorem smF_chk {e : Fl} (h : chkF e = 0) : smF e := chk_small e (chk_parts h).1
/-- What is read is small. -/
theorem par_small (s : ByteArray) : smF (parF s) := by
  unfold parF
  split
  · exact smF_fl0
  · cases h : parO (nums s) with
    | none => exact smF_fl0
    | some e => exact smF_chk (par_good h)
/-- What the law's Few has nothing against is small. -/
theorem few_small (e : Fl) : ∀ k : Int, 0 ≤ fewW e k → smF e := by
  induction e using Fl.ind with
  | h k n v i a f hi hf r d kids ih =>
    intro x h
    simp only [fewW] at h
    split at h
    · omega
    · next hn =>
      simp only [smF]
      refine ⟨by have : ¬ 10 < a.length := fun h => hn (.inr (.inl h)); omega, ?_⟩
      have : ∀ (l : List Fl) (y : Int), (∀ e, e ∈ l → e ∈ kids) → 0 ≤ fewW.L l y → smF.L l := fun l => by
        induction l with
        | nil => intro _ _ _; simp only [smF.L]
        | cons a t iht =>
          intro y hl h2
          simp only [fewW.L] at h2
          by_cases hy : 0 ≤ y
          · rw [if_pos hy] at h2
            have h3 : 0 ≤ fewW a y := by
              by_cases hz : 0 ≤ fewW a y
              · exact hz
              · have : ∀ (l : List Fl) (z : Int), ¬ 0 ≤ z → fewW.L l z = z := fun l z hz => by cases l <;> simp [fewW.L, hz]
                rw [this t _ hz] at h2
                exact h2
            simp only [smF.L]
            exact ⟨ih a (hl a (by simp)) y h3, iht _ (fun e he => hl e (by simp [he])) h2⟩
          · rw [if_neg hy] at h2; omega
      exact this kids (x - 1) (fun _ h => h) h
/-! The probe. -/
def tA : ByteArray := ⟨#[40, 38, 40, 67, 78, 61, 97, 42, 98, 41, 40, 33, 40, 111, 58, 100, 110, 58, 61, 99, 41, 41, 40, 97, 103, 101, 62, 61, 55, 41, 41]⟩
def tB : ByteArray := ⟨#[40, 38, 40, 99, 110, 61, 97, 42, 98, 41, 40, 33, 40, 111, 58, 100, 110, 58, 61, 99, 41, 41, 40, 97, 103, 101, 62, 61, 55, 41, 41]⟩
def tC : ByteArray := ⟨#[40, 99, 110, 61, 42, 42, 41]⟩
def ten : Fl := .mk 10 ⟨#[]⟩ ⟨#[]⟩ ⟨#[]⟩ [] ⟨#[]⟩ false false ⟨#[]⟩ false []
theorem aw24_1 : parE24 tA = 0 := by kernel_rfl
theorem aw24_2 : parE24 tC = 240 := by kernel_rfl
theorem aw24_3 : chkF ten = 240 := by kernel_rfl
theorem aw24_4 : (parF tA).kin = 0 := by kernel_rfl
theorem aw24_5 : (parF tA).kids.length = 3 := by kernel_rfl
theorem aw24_6 : ((parF tA).kids.getD 0 fl0).ini = ⟨#[97]⟩ := by kernel_rfl
theorem aw24_7 : shoF (parF tA) = tB := by kernel_rfl
theorem aw24_8 : chkF (parF tA) = 0 := by kernel_rfl
theorem aw24_9 : deepF (parF tA) 9 = 3 := by kernel_rfl
theorem aw24_10 : countF (parF tA) = 5 := by kernel_rfl
end Go.Proofs.YthbldkkjjjmegaaGreatDoor
/- What the landed calls of layer 24 answer, behind a world. -/
namespace Go.Proofs.YthbldkkjjjmegaaGreatDoor
set_option maxRecDepth 100000
open Go.RowKit

/-- What the landed calls answer, in each world behind w0. -/
structure K24 (w0 : World) : Prop where
  chk : ∀ (e : Fl) (x : Value) (w : World), FlV w e x → smF e → Calls Tryz.prog 9 #[x] w fun y w' => y = .returned (.int .i64 (chkF e)) ∧ Below w.heap.size w w'
  dep : ∀ (e : Fl) (x : Value) (w : World), FlV w e x → smF e → Calls Tryz.prog 11 #[x] w fun y w' => y = .returned (.int .i64 (deepF e 9)) ∧ Below w.heap.size w w'
  cnt : ∀ (e : Fl) (x : Value) (w : World), FlV w e x → smF e → Calls Tryz.prog 13 #[x] w fun y w' => y = .returned (.int .i64 (countF e)) ∧ Below w.heap.size w w'
  sho : ∀ (e : Fl) (x : Value) (w : World), Below w0.heap.size w0 w → FlV w e x → smF e → Calls Tryz.prog 7 #[x] w fun y w' => y = .returned (.tuple #[.string (shoF e), .int .i64 (chkF e)]) ∧ Below w.heap.size w w'
  par : ∀ (s : ByteArray) (w : World), Below w0.heap.size w0 w → Calls Tryz.prog 15 #[.string s] w fun y w' => ∃ x, y = .returned (.tuple #[x, .int .i64 (parE24 s)]) ∧ FlV w' (parF s) x ∧ Below w.heap.size w w'
  sam : ∀ (e e' : Fl) (x x' : Value) (w : World), FlV w e x → FlV w e' x' → smF e → smF e' → Calls Tryz.prog 18 #[x, x'] w fun y w' => y = .returned (.bool (sameF e e')) ∧ Below w.heap.size w w'
end Go.Proofs.YthbldkkjjjmegaaGreatDoor
/- The probe of layer 24, out of the landed contracts. (By gen_ax.py.) -/
namespace Go.Proofs.YthbldkkjjjmegaaGreatDoor
set_option maxRecDepth 100000
open Go.RowKit

set_option maxHeartbeats 6400000 in
theorem awake24 {w0 : World} (C : K24 w0) (w : World) (hw : Below w0.heap.size w0 w) : Calls Tryz.prog 6 #[] w fun e w' => e = .returned (.bool true) ∧ Below w.heap.size w w' := by
  have P1 : Hid (∀ W, Below w.heap.size w W → Calls Tryz.prog 15 #[.string ⟨#[40, 38, 40, 67, 78, 61, 97, 42, 98, 41, 40, 33, 40, 111, 58, 100, 110, 58, 61, 99, 41, 41, 40, 97, 103, 101, 62, 61, 55, 41, 41]⟩] W fun y w' => ∃ x, y = .returned (.tuple #[x, .int .i64 0]) ∧ FlV w' (parF tA) x ∧ Below W.heap.size W w') := fun W t => by
    have := C.par tA W (hw.trans (t.mono hw.size))
    rwa [aw24_1] at this
  have P2 : Hid (∀ W, Below w.heap.size w W → Calls Tryz.prog 15 #[.string ⟨#[40, 99, 110, 61, 42, 42, 41]⟩] W fun y w' => ∃ x, y = .returned (.tuple #[x, .int .i64 240]) ∧ FlV w' (parF tC) x ∧ Below W.heap.size W w') := fun W t => by
    have := C.par tC W (hw.trans (t.mono hw.size))
    rwa [aw24_2] at this
  have hs := par_small tA
  have S1 : Hid (∀ x W, Below w.heap.size w W → FlV W (parF tA) x → Calls Tryz.prog 7 #[x] W fun y w' => y = .returned (.tuple #[.string ⟨#[40, 38, 40, 99, 110, 61, 97, 42, 98, 41, 40, 33, 40, 111, 58, 100, 110, 58, 61, 99, 41, 41, 40, 97, 103, 101, 62, 61, 55, 41, 41]⟩, .int .i64 0]) ∧ Below W.heap.size W w') := fun x W t h => by
    have := C.sho (parF tA) x W (hw.trans (t.mono hw.size)) h hs
    rwa [aw24_7, aw24_8] at this
  have D1 : Hid (∀ x W, FlV W (parF tA) x → Calls Tryz.prog 11 #[x] W fun y w' => y = .returned (.int .i64 3) ∧ Below W.heap.size W w') := fun x W h => by
    have := C.dep (parF tA) x W h hs
    rwa [aw24_9] at this
  have N1 : Hid (∀ x W, FlV W (parF tA) x → Calls Tryz.prog 13 #[x] W fun y w' => y = .returned (.int .i64 5) ∧ Below W.heap.size W w') := fun x W h => by
    have := C.cnt (parF tA) x W h hs
    rwa [aw24_10] at this
  have M1 : Hid (∀ x W, FlV W (parF tA) x → Calls Tryz.prog 18 #[x, x] W fun y w' => y = .returned (.bool true) ∧ Below W.heap.size W w') := fun x W h => by
    have := C.sam (parF tA) (parF tA) x x W h h hs hs
    rwa [(sameF_iff _ _).2 rfl] at this
  have Q1 : Hid (∀ W, Calls Tryz.prog 9 #[vFl 10 ⟨#[]⟩ ⟨#[]⟩ ⟨#[]⟩ none 0 0 ⟨#[]⟩ false false ⟨#[]⟩ false none 0 0] W fun y w' => y = .returned (.int .i64 240) ∧ Below W.heap.size W w') := fun W => by
    have := C.chk ten (vFl 10 ⟨#[]⟩ ⟨#[]⟩ ⟨#[]⟩ none 0 0 ⟨#[]⟩ false false ⟨#[]⟩ false none 0 0) W (by
      unfold ten
      simp only [FlV]
      exact ⟨none, 0, none, 0, rfl, TxC.nil _ _, by decide, .inl rfl⟩) (by unfold ten; simp [smF, smF.L])
    rwa [aw24_3] at this
  have e4 := aw24_4
  have e5 := aw24_5
  have e6 := aw24_6
  clear C hs
  generalize parF tA = f at *
  generalize parF tC = g at *
  obtain ⟨k, n, v, i, a, ff, hi, hf, r, d, kids⟩ := f
  dsimp only at e4 e5 e6
  subst e4
  obtain ⟨q0, q1, q2, rfl⟩ : ∃ q0 q1 q2, kids = [q0, q1, q2] := by
    match kids, e5 with
    | [x, y, z], _ => exact ⟨x, y, z, rfl⟩
  replace e6 : q0.ini = ⟨#[97]⟩ := e6
  clear e5
  generalize hF : Fl.mk 0 n v i a ff hi hf r d [q0, q1, q2] = f at *
  have open1 : Hid (∀ W x, FlV W f x → ∃ a1 c1 a2 c2 gg off, x = vFl 0 n v i a1 a.length c1 ff hi hf r d a2 3 c2 ∧ a2 = some ⟨gg, off, none⟩ ∧ W.cell? ⟨gg, off + 3, none⟩ = some (.string ⟨#[97]⟩)) := fun W x h => by
    subst hF
    obtain ⟨a1, c1, a2, c2, hx, -, -, hk⟩ := h.open
    rcases hk with h0 | ⟨gg, off, h1, h2⟩
    · cases h0
    · have h3 := h2.get 0 (by simp)
      obtain ⟨x0, x1, x2, x3, x4, x5, x6, x7, x8, x9, x10, c0, cc1, cc2, c3, c4, c5, c6, c7, c8, c9, c10, hv⟩ := h3
      obtain ⟨y1, z1, y2, z2, hy, -⟩ := hv.open
      injection hy with hy
      have hy3 : x3 = .string q0.ini := by
        have := congrArg (fun l : Array Value => l.getD 3 undef) hy
        simpa using this
      rw [e6] at hy3
      exact ⟨a1, c1, a2, c2, gg, off, hx, h1, by rw [← hy3, ← c3]⟩
  clear e6 hF
  go_enter Tryz.func6, Tryz.ntmps6
  go_wp2_with (first
    | (go_at_call 18; refine (unhide M1 _ _ V7).mono ?_; rintro e w8 ⟨rfl, b8⟩; have t8 := t7.trans (b8.mono t7.size))
    | (go_at_call 9; refine (unhide Q1 _).mono ?_; rintro e w7 ⟨rfl, b7⟩; have t7 := t6.trans (b7.mono t6.size); have V7 := V6.grow b7; have H7 := keep_blk H6 b7; obtain ⟨k0, k1, k2, k3, k4, k5, k6, k7, k8, k9, k10⟩ := cells11 H7)
    | (go_at_call 13; refine (unhide N1 _ _ V5).mono ?_; rintro e w6 ⟨rfl, b6⟩; have t6 := t5.trans (b6.mono t5.size); have V6 := V5.grow b6; have H6 := keep_blk H5 b6)
    | (go_at_call 11; refine (unhide D1 _ _ V4).mono ?_; rintro e w5 ⟨rfl, b5⟩; have t5 := t4.trans (b5.mono t4.size); have V5 := V4.grow b5; have H5 := keep_blk H4 b5; obtain ⟨k0, k1, k2, k3, k4, k5, k6, k7, k8, k9, k10⟩ := cells11 H5)
    | (go_at_call 15; have M := F1; refine (unhide P2 _ t2).mono ?_; rintro e w3 ⟨y, rfl, v3, b3⟩; obtain ⟨y1, z1, y2, z2, rfl, -, -, -⟩ := v3.open; have t3 := t2.trans (b3.mono t2.size);
        have bo := Below.one w3 (.cells (cFl g.kin g.nam g.val g.ini y1 g.any.length z1 g.fin g.hi g.hf g.rul g.dn y2 g.kids.length z2) 27);
        have t4 := t3.trans (bo.mono t3.size); have V4 := (V2.grow b3).grow bo; have H4 := keep_blk (keep_blk H2 b3) bo; obtain ⟨k0, k1, k2, k3, k4, k5, k6, k7, k8, k9, k10⟩ := cells11 H4; have c4 := ((((bo1.mono (Nat.le_refl _)).trans (b2.mono bo1.size)).trans (b3.mono (bo1.trans (b2.mono bo1.size)).size)).trans (bo.mono ((bo1.trans (b2.mono bo1.size)).trans (b3.mono (bo1.trans (b2.mono bo1.size)).size)).size) |>.cell (cell_lt c1)).trans c1)
    | (go_at_call 7; refine (unhide S1 _ _ tA VA).mono ?_; rintro e w2 ⟨rfl, b2⟩; have t2 := tA.trans (b2.mono tA.size); have V2 := VA.grow b2; have H2 := keep_blk HB b2)
    | (go_at_call 15; refine (unhide P1 _ (Below.refl _ _)).mono ?_; rintro e w1 ⟨x, rfl, v1, t1⟩; obtain ⟨a1, d1, a2, d2, gg, off, rfl, rfl, c1⟩ := unhide open1 _ _ v1; have F1 := trivial;
        have bo1 := Below.one w1 (.cells (cFl 0 n v i a1 a.length d1 ff hi hf r d (some ⟨gg, off, none⟩) 3 d2) 27);
        have HB := heap_new w1 (.cells (cFl 0 n v i a1 a.length d1 ff hi hf r d (some ⟨gg, off, none⟩) 3 d2) 27);
        have tA := t1.trans (bo1.mono t1.size); have VA := v1.grow bo1))
  go_ret
  exact ⟨rfl, t8⟩
end Go.Proofs.YthbldkkjjjmegaaGreatDoor
