/- Rows of pairs, and of parts, of a call's own. -/
import Derived.Test.YtefobkgifigclaaGreatDoorM32
namespace Go.Proofs.YtefobkgifigclaaGreatDoor.S18
set_option maxRecDepth 100000
open Go.RowKit

/-- The cells of pairs. -/
def cellsP : List Pr → List Value
  | [] => []
  | p :: t => .string p.nam :: .string p.val :: cellsP t
theorem cellsP_len : ∀ r : List Pr, (cellsP r).length = r.length * 2
  | [] => rfl
  | p :: t => by simp [cellsP, cellsP_len t]; omega
theorem cellsP_app : ∀ a b : List Pr, cellsP (a ++ b) = cellsP a ++ cellsP b
  | [], _ => rfl
  | p :: t, b => by simp [cellsP, cellsP_app t b]
theorem cellsP_at : ∀ (r : List Pr) (j : Nat), j < r.length → (cellsP r)[j * 2]? = some (.string (r.getD j pr0).nam) ∧ (cellsP r)[j * 2 + 1]? = some (.string (r.getD j pr0).val)
  | [], j, h => by simp at h
  | p :: t, 0, _ => by simp [cellsP]
  | p :: t, j + 1, h => by
    have := cellsP_at t j (by simpa using h)
    rw [show (j + 1) * 2 = j * 2 + 1 + 1 by omega, show j * 2 + 1 + 1 + 1 = (j * 2 + 1) + 1 + 1 by omega]
    simpa [cellsP] using this
/-- A row of pairs of the call's own. -/
def Rp (B : Nat) (v : Value) (r : List Pr) (w : World) : Prop := w.ownsRow B 53 2 v r.length (cellsP r)
theorem Rp.nil (B : Nat) (w : World) : Rp B (.slice none 0 0) [] w := ⟨rfl, .inl ⟨rfl, rfl⟩⟩
theorem Rp.below {w w2 : World} {B : Nat} {v : Value} {r : List Pr} (h : Rp B v r w) (hb : Below w.heap.size w w2) : Rp B v r w2 := own_below h hb
theorem Rp.base {w : World} {B C : Nat} {v : Value} {r : List Pr} (h : Rp B v r w) (hc : C ≤ B) : Rp C v r w := by
  refine ⟨h.1, ?_⟩
  rcases h.2 with h' | ⟨g, cap, cur, hv, hB, rest⟩
  · exact .inl h'
  · exact .inr ⟨g, cap, cur, hv, Nat.le_trans hc hB, rest⟩
theorem Rp.own {w : World} {B N : Nat} {v : Value} {r : List Pr} (hN : N = r.length) (h : Rp B v r w) : w.ownsRow B 53 2 v N (cellsP r) := by subst hN; exact h
theorem Rp.push {w : World} {B N : Nat} {v : Value} {r : List Pr} {p : Pr} (hN : N = r.length) (h : w.ownsRow B 53 2 v (N + 1) (cellsP r ++ [.string p.nam, .string p.val])) : Rp B v (r ++ [p]) w := by
  subst hN
  unfold Rp
  rw [List.length_append, cellsP_app]
  exact h
theorem Rp.ps {w : World} {B : Nat} {v : Value} {r : List Pr} (h : Rp B v r w) (hl : r.length ≤ 9223372036854775807) : PsV w v r := by
  rcases h.2 with ⟨hv, h0⟩ | ⟨g, cap, cur, hv, _⟩
  · exact ⟨none, 0, by rw [hv, h0], hl, fun hi => by omega⟩
  · refine ⟨some ⟨g, 0, none⟩, cap, hv, hl, fun hi => ⟨g, 0, rfl, fun j hj => ?_⟩⟩
    obtain ⟨c1, c2⟩ := cellsP_at r j hj
    have k1 := World.ownsRow.cells h (g := g) (by rw [hv]; rfl) _ _ c1
    have k2 := World.ownsRow.cells h (g := g) (by rw [hv]; rfl) _ _ c2
    rw [add_zero3] at k1 k2
    rw [Nat.zero_add]
    exact ⟨k1, k2⟩
theorem Rp.lt {w : World} {B : Nat} {v : Value} {r : List Pr} (h : Rp B v r w) : ∀ g, v.ownBlock = some g → g < w.heap.size := fun g hg => (World.ownsRow.lt h g hg).2
theorem own_apart {w : World} {B C e f s t n m : Nat} {v u : Value} {xs ys : List Value} (h1 : w.ownsRow B e s v n xs) (h2 : w.ownsRow C f t u m ys) (hne : e ≠ f) : v.ownBlock = none ∨ v.ownBlock ≠ u.ownBlock := by
  rcases h1.2 with ⟨hv, _⟩ | ⟨g, cap, cur, hv, _, hg, _⟩
  · left; rw [hv]; rfl
  · right
    rcases h2.2 with ⟨hu, _⟩ | ⟨k, cap2, cur2, hu, _, hk, _⟩
    · rw [hv, hu]; simp [Value.ownBlock]
    · rw [hv, hu]
      intro e
      simp only [Value.ownBlock, Option.some.injEq] at e
      subst e
      rw [hg] at hk
      have := Option.some.inj hk
      injection this with _ h2
      exact hne h2
/-- A row of parts of the call's own (the first C blocks hold the parts), behind a row of pairs that grows. -/
structure Pt (B C : Nat) (vn vr : Value) (vs : List Value) (n : List (List Pr)) (r : List Pr) (w : World) : Prop where
  len : vs.length = n.length
  own : w.ownsRow B 55 1 vn n.length vs
  each : ∀ j, j < n.length → Rp 0 (vs.getD j undef) (n.getD j []) w ∧ ∀ g, (vs.getD j undef).ownBlock = some g → g < C
  row : Rp C vr r w
  big : B ≤ C
  le : C ≤ w.heap.size
theorem Pt.start (w : World) : Pt w.heap.size w.heap.size (.slice none 0 0) (.slice none 0 0) [] [] [] w :=
  ⟨rfl, ⟨rfl, .inl ⟨rfl, rfl⟩⟩, fun _ hj => absurd hj (Nat.not_lt_zero _), Rp.nil _ _, Nat.le_refl _, Nat.le_refl _⟩
theorem Pt.below {B C : Nat} {vn vr : Value} {vs : List Value} {n : List (List Pr)} {r : List Pr} {w w2 : World} (h : Pt B C vn vr vs n r w) (hb : Below w.heap.size w w2) : Pt B C vn vr vs n r w2 :=
  ⟨h.len, own_below h.own hb, fun j hj => ⟨(h.each j hj).1.below hb, (h.each j hj).2⟩, h.row.below hb, h.big, Nat.le_trans h.le hb.size⟩
/-- A pair more. -/
theorem Pt.pair {B C : Nat} {vn vr v2 : Value} {vs : List Value} {n : List (List Pr)} {r : List Pr} {p : Pr} {w w2 : World} (h : Pt B C vn vr vs n r w) (hg : w.grownBy w2 vr.ownBlock) (ho : Rp C v2 (r ++ [p]) w2) : Pt B C vn v2 vs n (r ++ [p]) w2 := by
  refine ⟨h.len, h.own.kept hg (own_apart h.own h.row (by decide)), fun j hj => ⟨?_, (h.each j hj).2⟩, ho, h.big, Nat.le_trans h.le hg.size⟩
  refine World.ownsRow.kept (h.each j hj).1 hg ?_
  cases hv : (vs.getD j undef).ownBlock with
  | none => exact .inl rfl
  | some g =>
    refine .inr fun e => ?_
    have h1 := (h.each j hj).2 g hv
    have h2 := own_block h.row g e.symm
    omega
/-- A part more. -/
theorem Pt.part {B C : Nat} {vn vr v2 : Value} {vs : List Value} {n : List (List Pr)} {r : List Pr} {w w2 : World} (h : Pt B C vn vr vs n r w) (hg : w.grownBy w2 vn.ownBlock) (ho : w2.ownsRow B 55 1 v2 (n.length + 1) (vs ++ [vr])) : Pt B w2.heap.size v2 (.slice none 0 0) (vs ++ [vr]) (n ++ [r]) [] w2 := by
  have hk : ∀ j, j < n.length → Rp 0 (vs.getD j undef) (n.getD j []) w2 := fun j hj => World.ownsRow.kept (h.each j hj).1 hg (own_apart (h.each j hj).1 h.own (by decide))
  refine ⟨by simp [h.len], by rw [List.length_append]; exact ho, fun j hj => ?_, Rp.nil _ _, Nat.le_trans h.big (Nat.le_trans h.le hg.size), Nat.le_refl _⟩
  rw [List.length_append, List.length_singleton] at hj
  by_cases e : j < n.length
  · have e1 : (vs ++ [vr]).getD j undef = vs.getD j undef := by simp [List.getD, List.getElem?_append_left (show j < vs.length by rw [h.len]; exact e)]
    have e2 : (n ++ [r]).getD j [] = n.getD j [] := by simp [List.getD, List.getElem?_append_left e]
    rw [e1, e2]
    exact ⟨hk j e, fun g hq => Nat.lt_of_lt_of_le ((h.each j e).2 g hq) (Nat.le_trans h.le hg.size)⟩
  · have e0 : j = n.length := by omega
    subst e0
    have e1 : (vs ++ [vr]).getD n.length undef = vr := by simp [List.getD, ← h.len]
    have e2 : (n ++ [r]).getD n.length [] = r := by simp [List.getD]
    rw [e1, e2]
    have hr : Rp 0 vr r w2 := Rp.base (World.ownsRow.kept h.row hg (own_apart h.row h.own (by decide))) (Nat.zero_le _)
    exact ⟨hr, hr.lt⟩
theorem Pt.ownN {B C N : Nat} {vn vr : Value} {vs : List Value} {n : List (List Pr)} {r : List Pr} {w : World} (hN : N = n.length) (h : Pt B C vn vr vs n r w) : w.ownsRow B 55 1 vn N vs := by subst hN; exact h.own
theorem Pt.bel_r {B C : Nat} {vn vr : Value} {vs : List Value} {n : List (List Pr)} {r : List Pr} {w w0 w2 : World} (h : Pt B C vn vr vs n r w) (hb : Below B w0 w) (hg : w.grownBy w2 vr.ownBlock) : Below B w0 w2 :=
  hb.trans (below_own hg (Nat.le_trans h.big h.le) (fun g e => Nat.le_trans h.big (own_block h.row g e)))
theorem Pt.bel_n {B C : Nat} {vn vr : Value} {vs : List Value} {n : List (List Pr)} {r : List Pr} {w w0 w2 : World} (h : Pt B C vn vr vs n r w) (hb : Below B w0 w) (hg : w.grownBy w2 vn.ownBlock) : Below B w0 w2 :=
  hb.trans (below_own hg (Nat.le_trans h.big h.le) (own_block h.own))
theorem Pt.nm {B C : Nat} {vn vr : Value} {vs : List Value} {n : List (List Pr)} {r : List Pr} {w : World} (h : Pt B C vn vr vs n r w) (hn : n.length ≤ 9223372036854775807) (hr : ∀ r ∈ n, r.length ≤ 9223372036854775807) : NmV w vn n := by
  rcases h.own.2 with ⟨hv, h0⟩ | ⟨g, cap, cur, hv, _, _, hc, _⟩
  · exact ⟨none, 0, by rw [hv, h0], by omega, hn, fun hi => by omega⟩
  · refine ⟨some ⟨g, 0, none⟩, cap, hv, hc, hn, fun hi => ⟨g, 0, rfl, fun j hj => ⟨vs.getD j undef, ?_, (h.each j hj).1.ps (hr _ (getD_memR n j hj))⟩⟩⟩
    have := World.ownsRow.cells h.own (g := g) (by rw [hv]; rfl) j (vs.getD j undef) (by have := h.len; simp [List.getD, show j < vs.length by omega])
    rw [add_zero3] at this
    rw [Nat.zero_add]
    exact this
end Go.Proofs.YtefobkgifigclaaGreatDoor.S18
/- The landed readParts of layer 18. -/
namespace Go.Proofs.YtefobkgifigclaaGreatDoor.S18
set_option maxRecDepth 100000
open Go.RowKit

theorem cutE_len : ∀ l : List Int, (cutE l).2.length ≤ l.length
  | [] => by simp [cutE]
  | c :: t => by
    have := cutE_len t
    unfold cutE
    split
    · simp
    · simp; omega
theorem valL_len : ∀ (k : Nat) (l : List Int) (f b : Bool) (v X : List Int), l.length ≤ k → valL f b l = some (v, X) → X.length ≤ l.length := by
  intro k
  induction k with
  | zero =>
    intro l f b v X hl h
    obtain rfl : l = [] := List.length_eq_zero_iff.1 (by omega)
    rw [val_nil] at h
    split at h
    · cases h
    · cases h; simp
  | succ k ih =>
    intro l f b v X hl h
    by_cases he : l.length = 0 ∨ l.getD 0 0 = 44 ∨ l.getD 0 0 = 43
    · rw [val_end f b l he] at h
      split at h
      · cases h
      · cases h; exact Nat.le_refl _
    · have h0 : 0 < l.length := by omega
      rw [val_rd f b l h0 (by omega)] at h
      split at h
      · cases h
      · rename_i hn
        have hz := (rd_size l h0).1
        cases hv : valL false (decide ((rdB l).2 = 1 ∧ (rdB l).1 = 32)) (l.drop (rdB l).2.toNat) with
        | none => rw [hv] at h; cases h
        | some y =>
          rw [hv] at h
          have := ih _ _ _ y.1 y.2 (by rw [List.length_drop]; omega) hv
          rw [List.length_drop] at this
          simp only [Option.map_some, Option.some.injEq, Prod.mk.injEq] at h
          rw [← h.2]
          omega
theorem pairL_len {l X : List Int} {p : Pr} (h : pairL l = some (p, X)) : X.length ≤ l.length := by
  unfold pairL at h
  cases hv : valL true false (cutE l).2 with
  | none => rw [hv] at h; cases h
  | some y =>
    rw [hv] at h
    simp only [Option.map_some, Option.some.injEq, Prod.mk.injEq] at h
    have := valL_len _ _ _ _ y.1 y.2 (Nat.le_refl _) hv
    have := cutE_len l
    rw [← h.2]
    omega
theorem parts_none {k : Nat} {n : List (List Pr)} {r : List Pr} {l : List Int} (h : pairL l = none) : partsL (k + 1) n r l = none := by rw [partsL, h]
theorem parts_last {k : Nat} {n : List (List Pr)} {r : List Pr} {l : List Int} {p : Pr} (h : pairL l = some (p, [])) : partsL (k + 1) n r l = some (n ++ [r ++ [p]]) := by rw [partsL, h]
theorem parts_more {k : Nat} {n : List (List Pr)} {r : List Pr} {l t : List Int} {p : Pr} {c : Int} (h : pairL l = some (p, c :: t)) : partsL (k + 1) n r l = if c = 43 then partsL k n (r ++ [p]) t else partsL k (n ++ [r ++ [p]]) [] t := by rw [partsL, h]
/-- How long a text is. -/
def szOf : Value → Nat
  | .string t => t.size
  | _ => 0
theorem pair_info : (Tryz.prog.info? 53).map (fun i => (i.zero, i.size, i.bytes)) = some (some (.agg #[.string ⟨#[]⟩, .string ⟨#[]⟩]), 2, 32) := by kernel_rfl
theorem rdn_info : (Tryz.prog.info? 55).map (fun i => (i.zero, i.size, i.bytes)) = some (some (.slice none 0 0), 1, 24) := by kernel_rfl
theorem ret_vb {v u : Value} {x y : Bool} (h : v = u) (h' : x = y) : Ending.returned (.tuple #[v, .bool x]) = .returned (.tuple #[u, .bool y]) := by rw [h, h']
theorem toList_zero {s : ByteArray} (h : nums s = []) : s.toList.isEmpty = true := toList_none (by rw [← nums_length, h]; rfl)
theorem two_new (w : World) (o o2 : Obj) : ((w.alloc o).alloc o2).heap[w.heap.size + 1]? = some o2 := by
  have := heap_new (w.alloc o) o2
  simpa using this
/-- A rest that is not empty. -/
theorem rest_of {rs : ByteArray} {c : Int} {X : List Int} (h : nums rs = c :: X) : ∃ hz : 0 < rs.size, rs.toList.isEmpty = false ∧ (rs[0].toNat : Int) = c ∧ rs.size = X.length + 1 ∧ nums (rs.extract 1 rs.size) = X := by
  have hl := congrArg List.length h
  rw [nums_length, List.length_cons] at hl
  have hz : 0 < rs.size := by omega
  refine ⟨hz, toList_some hz, ?_, hl, by rw [nums_drop, h]; rfl⟩
  rw [← nums_at rs 0 hz, h]
  rfl
/-- What readParts tells. -/
def rtOk (l : List Int) (v : Value) (ok : Bool) (w : World) : Prop := match partsL (l.length + 1) [] [] l with
  | none => ok = false
  | some N => ok = true ∧ NmV w v N
theorem rt_none {l : List Int} {v : Value} {w : World} (h : partsL (l.length + 1) [] [] l = none) : rtOk l v false w := by unfold rtOk; rw [h]
theorem rt_some {l : List Int} {v : Value} {w : World} {N : List (List Pr)} (h : partsL (l.length + 1) [] [] l = some N) (hN : NmV w v N) : rtOk l v true w := by unfold rtOk; rw [h]; exact ⟨rfl, hN⟩
theorem all_len {n : List (List Pr)} {r : List Pr} {m : Nat} (h1 : ∀ q ∈ n, q.length ≤ m) (h2 : r.length ≤ m) : ∀ q ∈ n ++ [r], q.length ≤ m := fun q hq => by
  rcases List.mem_append.1 hq with h | h
  · exact h1 q h
  · rw [List.mem_singleton.1 h]; exact h2
set_option maxHeartbeats 6400000 in
theorem rparts_any (s : ByteArray) (w : World) (hL : Ly w) (hs : s.size ≤ 100000) :
    Calls Tryz.prog 85 #[.string s] w fun e w' => ∃ v ok, e = .returned (.tuple #[v, .bool ok]) ∧ rtOk (nums s) v ok w' ∧ Below w.heap.size w w' := by
  obtain ⟨i0, hi, hz0, hz1, hz2⟩ := info_parts pair_info
  obtain ⟨j0, ji, jz0, jz1, jz2⟩ := info_parts rdn_info
  have hnl := nums_length s
  have CP := hide (fun t W hL (h : t.size ≤ s.size) => rpair_any t W hL (by omega))
  go_enter Tryz.func85, Tryz.ntmps85
  go_wp2
  go_step3
  go_wp2
  go_step3
  go_wp2
  go_loopw [0, 4, 5] (fun vt vn vr wr => ∃ (t : ByteArray) (n : List (List Pr)) (r : List Pr) (vs : List Value) (C k : Nat), vt = .string t ∧ n.length + r.length + t.size ≤ s.size ∧ (∀ q ∈ n, q.length ≤ 100001) ∧ t.size < k ∧ Hid (partsL k n r (nums t) = partsL ((nums s).length + 1) [] [] (nums s)) ∧ Hid (Pt w.heap.size C vn vr vs n r wr) ∧ Below w.heap.size w wr) (fun vt _ _ _ => szOf vt)
  case atStart => exact ⟨s, [], [], [], _, s.size + 1, rfl, by simp, fun q hq => by simp at hq, by omega, by rw [hnl]; rfl, Pt.start w, Below.refl _ _⟩
  case round =>
    obtain ⟨t, n, r, vs, C, k, rfl, hlen, hql, hk, HP, HT, hb⟩ := hrel
    have hsz := hb.size
    have CR := hide (unhide CP t wr (hL.keep hb) (by omega))
    have hnt := nums_length t
    obtain ⟨k, rfl⟩ : ∃ m, k = m + 1 := ⟨k - 1, by omega⟩
    obtain ⟨Nn, hNn⟩ : ∃ N, N = n.length := ⟨_, rfl⟩
    obtain ⟨Nr, hNr⟩ : ∃ N, N = r.length := ⟨_, rfl⟩
    have HNn := hide hNn
    have HNr := hide hNr
    rw [← hNn, ← hNr] at hlen
    have hm1 : Nr + 1 ≤ maxLen := by unfold maxLen; omega
    have hm2 : (Nr + 1) * 32 ≤ 140737488355328 := by omega
    have hm3 : Nn + 1 ≤ maxLen := by unfold maxLen; omega
    have hm4 : (Nn + 1) * 24 ≤ 140737488355328 := by omega
    clear hNn hNr
    cases hp : pairL (nums t) with
    | none =>
      have HE : Hid (∀ v W, rtOk (nums s) v false W) := fun v W => rt_none (by rw [← unhide HP]; exact parts_none hp)
      have HR : Hid (∀ x y rs ok, rpOk (nums t) x y rs ok → ok = false) := fun x y rs ok h => by unfold rpOk at h; rw [hp] at h; exact h
      clear hp HP
      go_wp2_with (go_at_call 118; refine (unhide CR).mono ?_; rintro e w2 ⟨x, y, rs, ok, rfl, h2, b2⟩; obtain rfl := unhide HR _ _ _ _ h2; clear h2)
      simp only [Exit.noGoto]
      go_ret2
      exact ⟨_, _, rfl, unhide HE _ _, hb.trans ((b2.alloc b2.size _).mono hsz)⟩
    | some q =>
      obtain ⟨p, X⟩ := q
      have hXl := pairL_len hp
      rw [hnt] at hXl
      have HR : Hid (∀ x y rs ok, rpOk (nums t) x y rs ok → ok = true ∧ x = p.nam ∧ y = p.val ∧ nums rs = X) := fun x y rs ok h => by unfold rpOk at h; rw [hp] at h; exact h
      cases X with
      | nil =>
        have HE : Hid (∀ v W, NmV W v (n ++ [r ++ [p]]) → rtOk (nums s) v true W) := fun v W h => rt_some (by rw [← unhide HP]; exact parts_last hp) h
        have HLA : Hid (∀ q ∈ n ++ [r ++ [p]], q.length ≤ 9223372036854775807) := fun q hq => by
          have := all_len hql (show (r ++ [p]).length ≤ 100001 by rw [List.length_append, ← unhide HNr]; simp; omega) q hq
          omega
        clear hp HP
        go_wp2_with (first
          | (at_builtin; refine wpList_append_lies _ rfl _ _ 57 rfl w.heap.size 55 j0 _ 1 24 Tryz.underlying57 ji jz0 jz1 jz2 rfl (by omega) _ Nn _ rfl (World.ownsRow.alloc ((unhide T9).ownN (unhide HNn)) _) ⟨w9.heap.size, 0, none⟩ 1 1 [.slice (some ⟨g9, 0, none⟩) (Nr + 1) cap9] rfl rfl (World.news_of_block (cs := #[.slice (some ⟨g9, 0, none⟩) (Nr + 1) cap9]) (t := 55) (fr := (0, 0)) (heap_new w9 _)) (by simp [Value.oneCell']) (by omega) hm3 hm4 (by simp; omega) (w9.heap.size + 1) (by simp) ?_; intro gA capA wA hownA hgrowA hatA hltA; have TA := hide ((unhide T9).part (grown_new hgrowA) (by rw [← unhide HNn]; exact hownA)); have hbA := (unhide T9).bel_n hb9 (grown_new hgrowA); clear hownA hgrowA hatA hltA)
          | (at_builtin; refine wpList_append_lies _ rfl _ _ 55 rfl C 53 i0 _ 2 32 Tryz.underlying55 hi hz0 hz1 hz2 rfl (by omega) _ Nr _ rfl (World.ownsRow.alloc (Rp.own (unhide HNr) (unhide T2).row) _) ⟨w2.heap.size + 1, 0, none⟩ 1 1 [.string p.nam, .string p.val] rfl rfl (World.news_of_block (cs := #[.string p.nam, .string p.val]) (t := 53) (fr := (0, 0)) (unhide HNB)) (by simp [Value.oneCell']) (by omega) hm1 hm2 (by simp; omega) (w2.heap.size + 2) (by simp) ?_; intro g9 cap9 w9 hown9 hgrow9 hat9 hlt9; have T9 := hide ((unhide T2).pair (grown_new hgrow9) (Rp.push (unhide HNr) hown9)); have hb9 := (unhide T2).bel_r hb2 (grown_new hgrow9); have hC9 := Nat.le_trans (unhide T9).big (unhide T9).le; clear hown9 hgrow9 hat9 hlt9)
          | (go_at_call 118; refine (unhide CR).mono ?_; rintro e w2 ⟨x, y, rs, ok, rfl, h2, b2⟩; obtain ⟨rfl, rfl, rfl, hrs⟩ := unhide HR _ _ _ _ h2; clear h2; have HRS := hide hrs; have hem := toList_zero hrs; clear hrs; have T2 := hide (((unhide HT).below b2).below (Below.one _ _) : Pt _ _ _ _ _ _ _ (w2.alloc (.cells #[.string p.nam, .string p.val] 53))); have hb2 := (hb.trans (b2.mono hsz)).alloc (Nat.le_trans hsz b2.size) (.cells #[.string p.nam, .string p.val] 53); have HNB : Hid (((w2.alloc (.cells #[.string p.nam, .string p.val] 53)).alloc (.cells #[.string p.nam, .string p.val] 53)).heap[w2.heap.size + 1]? = some (.cells #[.string p.nam, .string p.val] 53)) := (two_new w2 _ _); have hC := (unhide T2).le; rw [World.size_alloc] at hC))
        simp only [Exit.noGoto]
        go_ret2
        exact ⟨_, _, rfl, unhide HE _ _ ((unhide TA).nm (by rw [List.length_append, ← unhide HNn]; simp; omega) (unhide HLA)), hbA⟩
      | cons c X =>
        have HS := hide (parts_more (k := k) (n := n) (r := r) hp)
        rw [unhide HP] at HS
        have HLA : Hid (∀ q ∈ n ++ [r ++ [p]], q.length ≤ 100001) := all_len hql (by rw [List.length_append, ← unhide HNr]; simp; omega)
        rw [List.length_cons] at hXl
        clear hp HP
        by_cases h43 : c = 43
        · rw [if_pos h43] at HS
          subst h43
          go_wp2_with (first
            | (at_builtin; refine wpList_append_lies _ rfl _ _ 55 rfl C 53 i0 _ 2 32 Tryz.underlying55 hi hz0 hz1 hz2 rfl (by omega) _ Nr _ rfl (World.ownsRow.alloc (Rp.own (unhide HNr) (unhide T2).row) _) ⟨w2.heap.size + 1, 0, none⟩ 1 1 [.string p.nam, .string p.val] rfl rfl (World.news_of_block (cs := #[.string p.nam, .string p.val]) (t := 53) (fr := (0, 0)) (unhide HNB)) (by simp [Value.oneCell']) (by omega) hm1 hm2 (by simp; omega) (w2.heap.size + 2) (by simp) ?_; intro g9 cap9 w9 hown9 hgrow9 hat9 hlt9; have T9 := hide ((unhide T2).pair (grown_new hgrow9) (Rp.push (unhide HNr) hown9)); have hb9 := (unhide T2).bel_r hb2 (grown_new hgrow9); have hC9 := Nat.le_trans (unhide T9).big (unhide T9).le; clear hown9 hgrow9 hat9 hlt9)
            | (go_at_call 118; refine (unhide CR).mono ?_; rintro e w2 ⟨x, y, rs, ok, rfl, h2, b2⟩; obtain ⟨rfl, rfl, rfl, hrs⟩ := unhide HR _ _ _ _ h2; clear h2; have HRS := hide hrs; obtain ⟨hrz, hem, hr0, hr1, hrd⟩ := rest_of hrs; have HRD := hide hrd; clear hrd; have zr0 : (0 : Int) < (rs.size : Int) := (by omega); have zr1 : (1 : Int) ≤ (rs.size : Int) := (by omega); have HR1 := hide hr1; clear hr1; clear hrs; have T2 := hide (((unhide HT).below b2).below (Below.one _ _) : Pt _ _ _ _ _ _ _ (w2.alloc (.cells #[.string p.nam, .string p.val] 53))); have hb2 := (hb.trans (b2.mono hsz)).alloc (Nat.le_trans hsz b2.size) (.cells #[.string p.nam, .string p.val] 53); have HNB : Hid (((w2.alloc (.cells #[.string p.nam, .string p.val] 53)).alloc (.cells #[.string p.nam, .string p.val] 53)).heap[w2.heap.size + 1]? = some (.cells #[.string p.nam, .string p.val] 53)) := (two_new w2 _ _); have hC := (unhide T2).le; rw [World.size_alloc] at hC))
          go_roundw
          case rel =>
            refine ⟨rs.extract 1 rs.size, n, r ++ [p], vs, C, k, rfl, ?_, hql, ?_, ?_, unhide T9, hb9⟩
            · rw [List.length_append, ← unhide HNr, ← unhide HNn, ByteArray.size_extract, unhide HR1]; simp; omega
            · rw [ByteArray.size_extract, unhide HR1]; omega
            · show _ = _
              rw [unhide HRD, unhide HS]
          case measure =>
            simp only [szOf]
            rw [ByteArray.size_extract, unhide HR1]
            omega
        · rw [if_neg h43] at HS
          have h43' : (c == 43) = false := by rw [beq_eq_false_iff_ne]; exact h43
          go_wp2_with (first
            | (at_builtin; refine wpList_append_lies _ rfl _ _ 57 rfl w.heap.size 55 j0 _ 1 24 Tryz.underlying57 ji jz0 jz1 jz2 rfl (by omega) _ Nn _ rfl (World.ownsRow.alloc ((unhide T9).ownN (unhide HNn)) _) ⟨w9.heap.size, 0, none⟩ 1 1 [.slice (some ⟨g9, 0, none⟩) (Nr + 1) cap9] rfl rfl (World.news_of_block (cs := #[.slice (some ⟨g9, 0, none⟩) (Nr + 1) cap9]) (t := 55) (fr := (0, 0)) (heap_new w9 _)) (by simp [Value.oneCell']) (by omega) hm3 hm4 (by simp; omega) (w9.heap.size + 1) (by simp) ?_; intro gA capA wA hownA hgrowA hatA hltA; have TA := hide ((unhide T9).part (grown_new hgrowA) (by rw [← unhide HNn]; exact hownA)); have hbA := (unhide T9).bel_n hb9 (grown_new hgrowA); clear hownA hgrowA hatA hltA)
            | (at_builtin; refine wpList_append_lies _ rfl _ _ 55 rfl C 53 i0 _ 2 32 Tryz.underlying55 hi hz0 hz1 hz2 rfl (by omega) _ Nr _ rfl (World.ownsRow.alloc (Rp.own (unhide HNr) (unhide T2).row) _) ⟨w2.heap.size + 1, 0, none⟩ 1 1 [.string p.nam, .string p.val] rfl rfl (World.news_of_block (cs := #[.string p.nam, .string p.val]) (t := 53) (fr := (0, 0)) (unhide HNB)) (by simp [Value.oneCell']) (by omega) hm1 hm2 (by simp; omega) (w2.heap.size + 2) (by simp) ?_; intro g9 cap9 w9 hown9 hgrow9 hat9 hlt9; have T9 := hide ((unhide T2).pair (grown_new hgrow9) (Rp.push (unhide HNr) hown9)); have hb9 := (unhide T2).bel_r hb2 (grown_new hgrow9); have hC9 := Nat.le_trans (unhide T9).big (unhide T9).le; clear hown9 hgrow9 hat9 hlt9)
            | (go_at_call 118; refine (unhide CR).mono ?_; rintro e w2 ⟨x, y, rs, ok, rfl, h2, b2⟩; obtain ⟨rfl, rfl, rfl, hrs⟩ := unhide HR _ _ _ _ h2; clear h2; have HRS := hide hrs; obtain ⟨hrz, hem, hr0, hr1, hrd⟩ := rest_of hrs; have HRD := hide hrd; clear hrd; have zr0 : (0 : Int) < (rs.size : Int) := (by omega); have zr1 : (1 : Int) ≤ (rs.size : Int) := (by omega); have HR1 := hide hr1; clear hr1; clear hrs; have T2 := hide (((unhide HT).below b2).below (Below.one _ _) : Pt _ _ _ _ _ _ _ (w2.alloc (.cells #[.string p.nam, .string p.val] 53))); have hb2 := (hb.trans (b2.mono hsz)).alloc (Nat.le_trans hsz b2.size) (.cells #[.string p.nam, .string p.val] 53); have HNB : Hid (((w2.alloc (.cells #[.string p.nam, .string p.val] 53)).alloc (.cells #[.string p.nam, .string p.val] 53)).heap[w2.heap.size + 1]? = some (.cells #[.string p.nam, .string p.val] 53)) := (two_new w2 _ _); have hC := (unhide T2).le; rw [World.size_alloc] at hC))
          go_roundw
          case rel =>
            refine ⟨rs.extract 1 rs.size, n ++ [r ++ [p]], [], _, _, k, rfl, ?_, unhide HLA, ?_, ?_, unhide TA, hbA⟩
            · rw [List.length_append, ← unhide HNn, ByteArray.size_extract, unhide HR1]; simp; omega
            · rw [ByteArray.size_extract, unhide HR1]; omega
            · show _ = _
              rw [unhide HRD, unhide HS]
          case measure =>
            simp only [szOf]
            rw [ByteArray.size_extract, unhide HR1]
            omega
end Go.Proofs.YtefobkgifigclaaGreatDoor.S18
