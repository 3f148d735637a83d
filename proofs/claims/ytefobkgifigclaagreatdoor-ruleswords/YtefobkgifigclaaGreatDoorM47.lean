/- The landed NameKey of layer 22, of a name whose parts have one pair each. -/
import Derived.Test.YtefobkgifigclaaGreatDoorM45
import Derived.Test.YtefobkgifigclaaGreatDoorM46
import Derived.Test.YtefobkgifigclaaGreatDoorM34
import Derived.Test.YtefobkgifigclaaGreatDoorM40
import Derived.Laws.ResultCell
import Derived.Laws.EntriesVeiled
namespace Go.Proofs.YtefobkgifigclaaGreatDoor
set_option maxRecDepth 100000
open Go.RowKit
attribute [local go_sem] Oper.semAt_some

/-- The keys of parts, one behind the other. -/
def acc22 {N : Nat} (ks : Fin N → ByteArray) (pre : List (Fin N)) : List UInt8 := pre.flatMap fun x => (ks x).data.toList ++ [0]
theorem acc22_app {N : Nat} (ks : Fin N → ByteArray) (pre : List (Fin N)) (x : Fin N) : acc22 ks (pre ++ [x]) = acc22 ks pre ++ ((ks x).data.toList ++ [0]) := by unfold acc22; rw [List.flatMap_append]; simp
theorem acc22_len {N : Nat} {ks : Fin N → ByteArray} {M : Nat} (h : ∀ x, (ks x).size ≤ M) : ∀ pre : List (Fin N), (acc22 ks pre).length ≤ pre.length * (M + 1)
  | [] => by simp [acc22]
  | x :: t => by
    have ih := acc22_len h t
    have hx := h x
    have e : acc22 ks (x :: t) = ((ks x).data.toList ++ [0]) ++ acc22 ks t := rfl
    have hl : (ks x).data.toList.length = (ks x).size := by show (ks x).data.toList.length = (ks x).data.size; simp
    rw [e, List.length_append, List.length_append, hl, List.length_cons (a := x), Nat.add_mul, Nat.one_mul]
    simp only [List.length_cons, List.length_nil]
    omega
theorem res_cells22 {fn : Func} {p q : Tmp} (h : fn.results = #[.cell p 9, .cell q 30]) (tmps : Array Value) (w : World) (g k : Nat) (x : ByteArray) (n : Int) (hp : tmps.getD p undef = .pointer (some ⟨g, 0, none⟩)) (hq : tmps.getD q undef = .pointer (some ⟨k, 0, none⟩)) (hg : w.cell? ⟨g, 0, none⟩ = some (.string x)) (hk : w.cell? ⟨k, 0, none⟩ = some (.int .i64 n)) :
    (results fn tmps).run Tryz.prog w = .ok (.tuple #[.string x, .int .i64 n]) w := by
  have hp' : tmps[p]?.getD undef = .pointer (some ⟨g, 0, none⟩) := by simpa using hp
  have hq' : tmps[q]?.getD undef = .pointer (some ⟨k, 0, none⟩) := by simpa using hq
  have l1 : (loadVar 9 ⟨g, 0, none⟩).run Tryz.prog w = .ok (.string x) w := by
    simp [loadVar, Sem.run_bind, Tryz.isAgg9, hg]
  have l2 : (loadVar 30 ⟨k, 0, none⟩).run Tryz.prog w = .ok (.int .i64 n) w := by
    simp [loadVar, Sem.run_bind, Tryz.isAgg30, hk]
  simp [results, h, hp', hq', asAddr, l1, l2]
theorem set_box {w : World} {g : Nat} {v u : Value} {T : TypeId} (h : w.heap[g]? = some (.cells #[v] T)) : (w.setCell ⟨g, 0, none⟩ u).heap[g]? = some (.cells #[u] T) := by
  simp [World.setCell, Array.getElem?_modify, h]
theorem mkPairs22 (v u : Value) (w : World) : Calls Tryz.prog 40 #[.agg #[v, u]] w fun e w' => e = .returned (.func (.func 61) #[] #[.pointer (some ⟨w.heap.size, 0, none⟩)]) ∧ w' = w.alloc (.cells #[v, u] 38) := by
  have hmf : ∀ (fn : Fn) (first cap : Array Value) (w : World), (Instr.makeFunc fn first cap).run Tryz.prog w = .ok (.func fn first cap) w := fun _ _ _ _ => rfl
  go_enter Tryz.func40, Tryz.ntmps40
  go_wp2
  go_ret
  exact ⟨rfl, rfl⟩
set_option maxHeartbeats 6400000 in
theorem nameKey22 (va vb vn : Value) (l : List S20.Ty) (N : List (List S18.Pr)) (ps : Fin N.length → S18.Pr) (ks : Fin N.length → ByteArray) (w : World)
    (hV : S20.TysV w va l) (hF : S20.fewT l = true) (hok : S20.chkT l = 0) (hN : S18.NmV w vn N) (hchk : S18.chkN N = 0) (hNl : N.length ≤ 1000)
    (h1 : ∀ j : Fin N.length, N.getD j [] = [ps j]) (hks : ∀ j, (ks j).size ≤ 100000)
    (CP : ∀ W bs j, Below w.heap.size w W → W.heap[bs]? = some (.cells #[va, vb] 38) → Calls Tryz.prog 61 (#[.agg #[.string (ps j).nam, .string (ps j).val]] ++ #[.pointer (some ⟨bs, 0, none⟩)]) W fun e w' => e = .returned (.tuple #[.string (ks j), .int .i64 0]) ∧ Below W.heap.size W w') :
    Calls Tryz.prog 23 #[.agg #[va, vb], vn] w fun e w' => e = .returned (.tuple #[.string ⟨(acc22 ks (dn22 N.length N.length)).toArray⟩, .int .i64 0]) ∧ Below w.heap.size w w' := by
  have hmf : ∀ (fn : Fn) (first cap : Array Value) (w : World), (Instr.makeFunc fn first cap).run Tryz.prog w = .ok (.func fn first cap) w := fun _ _ _ _ => rfl
  have HCP := hide CP
  have H1 := hide h1
  have HKS := hide hks
  have HNV := hide hN
  have CA := hide (fun W (h : Below w.heap.size w W) => S20.acheck_any va l W trivial hF (hV.below h))
  have CD := hide (fun W (h : Below w.heap.size w W) => S18.check_any vn N W (hN.below h))
  rw [hok] at CA
  rw [hchk] at CD
  obtain ⟨aa, ac, rfl⟩ := hV.shape
  obtain ⟨na, nc, rfl⟩ := hN.shape
  have hb3 : Below w.heap.size w (((w.alloc (.cells #[.slice aa l.length ac, vb] 38)).alloc (.cells #[.string ⟨#[]⟩] 9)).alloc (.cells #[.int .i64 0] 30)) := by
    have e1 := Below.one w (.cells #[.slice aa l.length ac, vb] 38)
    have e2 := e1.trans ((Below.one _ (.cells #[.string ⟨#[]⟩] 9)).mono e1.size)
    exact e2.trans ((Below.one _ (.cells #[.int .i64 0] 30)).mono e2.size)
  have hs0 : (((w.alloc (.cells #[.slice aa l.length ac, vb] 38)).alloc (.cells #[.string ⟨#[]⟩] 9)).alloc (.cells #[.int .i64 0] 30)).heap[w.heap.size]? = some (.cells #[.slice aa l.length ac, vb] 38) := box22 (box22 (heap_new w _) (Below.one _ _)) (Below.one _ _)
  clear CP h1 hks hN hV hF hok hchk
  refine (callsIn_wide (n := 5)).1 ?_
  refine callsIn_of_wp_marks Tryz.func23 rfl trivial ?_ rfl
  simp only [Tryz.ntmps23, List.size_toArray, List.length_cons, List.length_nil, Nat.reduceAdd, Nat.reduceSub, Array.replicate_succ, Array.replicate_zero, List.push_toArray, List.append_toArray, List.nil_append, List.cons_append]
  gi_wp2_with (first
    | (refine ⟨trivial, ?_⟩; gi_at_call 41; refine (callsIn_wide.2 (back22_any _ _ _ _)).mono ?_; rintro e w' ⟨rfl, rfl⟩)
    | (refine ⟨trivial, ?_⟩; gi_at_call 40; refine (callsIn_wide.2 (mkPairs22 _ _ _)).mono ?_; rintro e w' ⟨rfl, rfl⟩)
    | (refine ⟨trivial, ?_⟩; gi_at_call 39; refine (callsIn_wide.2 (unhide CD _ t1)).mono ?_; rintro e w2 ⟨rfl, g2⟩; have b2 := g2.below; have t2 := t1.trans (b2.mono t1.size); have k0 := S18.blk_cell (box22 (unhide HB1) b2) 0; have k1 := S18.blk_cell (box22 (unhide HB1) b2) 1)
    | (refine ⟨trivial, ?_⟩; gi_at_call 38; refine (callsIn_wide.2 (unhide CA _ hb3)).mono ?_; rintro e w1 ⟨rfl, b1⟩; have t1 := hb3.trans (b1.mono hb3.size); have HB1 := hide (box22 hs0 b1)))
  obtain ⟨W0, hW0⟩ : ∃ W0, ((((w2.alloc (.cells #[.slice aa l.length ac, vb] 38)).alloc (.cells #[.func (.func 61) #[] #[.pointer (some ⟨w2.heap.size, 0, none⟩)]] 81)).alloc (.cells #[.pointer none, .slice none 0 0] 86)).alloc (.cells #[.slice na N.length nc] 57)) = W0 := ⟨_, rfl⟩
  rw [hW0]
  -- what lies where the loop begins
  have hs2 : ∀ (W : World) (o : Obj), (W.alloc o).heap.size = W.heap.size + 1 := fun W o => by simp
  have b20 : Below w2.heap.size w2 W0 := by
    rw [← hW0]
    have e1 := Below.one w2 (.cells #[.slice aa l.length ac, vb] 38)
    have e2 := e1.trans ((Below.one _ (.cells #[.func (.func 61) #[] #[.pointer (some ⟨w2.heap.size, 0, none⟩)]] 81)).mono e1.size)
    have e3 := e2.trans ((Below.one _ (.cells #[.pointer none, .slice none 0 0] 86)).mono e2.size)
    exact e3.trans ((Below.one _ (.cells #[.slice na N.length nc] 57)).mono e3.size)
  have z0 : W0.heap.size = w2.heap.size + 1 + 1 + 1 + 1 := by rw [← hW0, hs2, hs2, hs2, hs2]
  have xS : W0.heap[w2.heap.size]? = some (.cells #[.slice aa l.length ac, vb] 38) := by
    rw [← hW0]; exact box22 (box22 (box22 (heap_new w2 _) (Below.one _ _)) (Below.one _ _)) (Below.one _ _)
  have xF : W0.heap[w2.heap.size + 1]? = some (.cells #[.func (.func 61) #[] #[.pointer (some ⟨w2.heap.size, 0, none⟩)]] 81) := by
    have h := heap_new (w2.alloc (.cells #[.slice aa l.length ac, vb] 38)) (.cells #[.func (.func 61) #[] #[.pointer (some ⟨w2.heap.size, 0, none⟩)]] 81)
    rw [hs2] at h
    rw [← hW0]; exact box22 (box22 h (Below.one _ _)) (Below.one _ _)
  have xN : W0.heap[w2.heap.size + 1 + 1 + 1]? = some (.cells #[.slice na N.length nc] 57) := by
    have h := heap_new (((w2.alloc (.cells #[.slice aa l.length ac, vb] 38)).alloc (.cells #[.func (.func 61) #[] #[.pointer (some ⟨w2.heap.size, 0, none⟩)]] 81)).alloc (.cells #[.pointer none, .slice none 0 0] 86)) (.cells #[.slice na N.length nc] 57)
    rw [hs2, hs2, hs2] at h
    rw [← hW0]; exact h
  have xB : Sb (w2.heap.size + 1 + 1) (w2.heap.size + 1 + 1) [] W0 := by
    have h := Sb.new ((w2.alloc (.cells #[.slice aa l.length ac, vb] 38)).alloc (.cells #[.func (.func 61) #[] #[.pointer (some ⟨w2.heap.size, 0, none⟩)]] 81))
    rw [hs2, hs2] at h
    rw [← hW0]; exact h.keep (Below.one _ _)
  have hw2 := t2.size
  have y1 : w2.heap[w.heap.size + 1]? = some (.cells #[.string ⟨#[]⟩] 9) := by
    have h := heap_new (w.alloc (.cells #[.slice aa l.length ac, vb] 38)) (.cells #[.string ⟨#[]⟩] 9)
    rw [hs2] at h
    exact box22 (box22 (box22 h (Below.one _ _)) b1) b2
  have y2 : w2.heap[w.heap.size + 1 + 1]? = some (.cells #[.int .i64 0] 30) := by
    have h := heap_new ((w.alloc (.cells #[.slice aa l.length ac, vb] 38)).alloc (.cells #[.string ⟨#[]⟩] 9)) (.cells #[.int .i64 0] 30)
    rw [hs2, hs2] at h
    exact box22 (box22 h b1) b2
  have l1 := S18.blk_lt y1
  have l2 := S18.blk_lt y2
  obtain ⟨bb, vs, hbb, hIb, hps⟩ : ∃ (bb : Nat) (vs : Fin N.length → Value), bb < w2.heap.size ∧ (0 < N.length → ∃ off, na = some ⟨bb, off, none⟩ ∧ ∀ j : Fin N.length, w.cell? ⟨bb, off + j, none⟩ = some (vs j)) ∧ ∀ j, S18.PsV w (vs j) (N.getD j []) := by
    obtain ⟨a', c', he, _, _, hc⟩ := unhide HNV
    by_cases h0 : 0 < N.length
    · obtain ⟨bb, off, rfl, hcc⟩ := hc h0
      obtain ⟨vs, hvs⟩ := Classical.axiomOfChoice (fun j : Fin N.length => hcc j j.2)
      injection he with he1 _ _
      refine ⟨bb, vs, ?_, fun _ => ⟨off, he1, fun j => (hvs j).1⟩, fun j => (hvs j).2⟩
      have := cell_lt (hvs ⟨0, h0⟩).1
      dsimp only at this
      omega
    · exact ⟨0, fun _ => undef, by omega, fun h => absurd h h0, fun j => absurd j.2 (by omega)⟩
  have HPS := hide hps
  have HS := hide (back22_stops (5 - 1) (w2.heap.size + 1 + 1 + 1) bb N.length (.slice na N.length nc) hNl vs W0 (by omega) (by omega) (S18.blk_cell xN 0) (by
    refine ⟨na, nc, rfl, fun h0 => ?_⟩
    obtain ⟨off, h1, h2⟩ := hIb h0
    exact ⟨off, h1, fun j => ((t2.trans (b20.mono hw2)).cell (cell_lt (h2 j))).trans (h2 j)⟩))
  have HX := hide (And.intro xS (And.intro xF (And.intro xN (And.intro (box22 y1 b20) (box22 y2 b20)))))
  have HXB := hide xB
  have HT2 := hide (t2.trans (b20.mono hw2))
  clear xS xF xN xB y1 y2 hIb hps hW0 b20 hb3 hs0 t1 b1 b2 g2 k0 k1 t2 CA CD HB1 HNV
  refine wpIn_rangeFunc_ownG (F := Fence.wide) (n := 5) rfl (by omega) (gf := 65) (lb := #[.pointer (some ⟨w2.heap.size + 1 + 1 + 1, 0, none⟩)]) rfl trivial (enters_of Tryz.func65 (by kernel_rfl) rfl)
    (unhide HS) (fun h k => ⟨k.1.trans h.1, k.2.trans h.2⟩)
    (fun W p o o' hp h _ _ => ⟨World.putObj_heap_other (by omega), World.putObj_heap_other (by omega)⟩) (Below.refl _ _) (fun _ => rfl)
    (fun pre W => Sb (w2.heap.size + 1 + 1) (w2.heap.size + 1 + 1) (acc22 ks pre) W ∧ Below (w2.heap.size + 1 + 1) W0 W ∧ W.heap[w2.heap.size + 1 + 1 + 1]? = some (.cells #[.slice na N.length nc] 57)) (fun _ _ _ => False)
    (fun s X Y row hs hg hr => ⟨hs.1.own hg (fun r e => (hr r e).2), hs.2.1.grown hg (by have := hs.2.1.size; omega) (fun k e => by have := (hr k e).1; omega), (hg.block _ (S18.blk_lt hs.2.2) (fun e => by obtain ⟨_, o, ho, hc⟩ := hr _ e.symm; rw [hs.2.2] at ho; cases ho; cases hc)).trans hs.2.2⟩)
    (fun _ _ _ _ _ h _ _ => h.elim) ⟨unhide HXB, Below.refl _ _, (unhide HX).2.2.1⟩
    (fun x => { tmps := #[.agg #[.slice aa l.length ac, vb], .slice na N.length nc, .pointer (some ⟨w.heap.size, 0, none⟩), undef, .pointer (some ⟨w.heap.size + 1, 0, none⟩), .pointer (some ⟨w.heap.size + 1 + 1, 0, none⟩), .int .i64 0, .int .i64 0, .pointer (some ⟨w2.heap.size + 1, 0, none⟩), .pointer (some ⟨w2.heap.size + 1 + 1, 0, none⟩), undef, vs x, undef, undef, .pointer (some ⟨w.heap.size, 0, none⟩), .slice aa l.length ac, .int .i64 0, .int .i64 0, .bool false, undef, .slice na N.length nc, .int .i64 0, .int .i64 0, .bool false, undef, .agg #[.slice aa l.length ac, vb], .func (.func 61) #[] #[.pointer (some ⟨w2.heap.size, 0, none⟩)], .slice na N.length nc, .func (.func 65) #[] #[.pointer (some ⟨w2.heap.size + 1 + 1 + 1, 0, none⟩)], .int .i64 ((x : Nat) : Int), vs x, undef, undef, undef, undef, undef, undef, undef, undef, undef, undef, undef, undef], defers := [] }) ?assign ?body ?done ?stop
  case assign =>
    rintro lz x W K hK
    have HK := hide hK
    clear hK
    unfold bk22
    generalize vs x = u at *
    gi_wp2
    exact unhide HK
  case body =>
    rintro lz pre x W ⟨hsb, hbl, hn⟩ hlt
    have hsz := hbl.size
    have tW : Below w.heap.size w W := (unhide HT2).trans (hbl.mono (by omega))
    have hR := (unhide HPS x).below tW
    rw [unhide H1 x] at hR
    have hS : W.heap[w2.heap.size]? = some (.cells #[.slice aa l.length ac, vb] 38) := (hbl.block _ (by omega)).trans (unhide HX).1
    have c8 := S18.blk_cell ((hbl.block _ (by omega)).trans (unhide HX).2.1) 0
    have CQ := hide (part22 w2.heap.size (ps x) (ks x) (vs x) W hR (Nat.le_trans (unhide HKS x) (by omega)) (fun W2 h => unhide HCP W2 _ x (tW.trans (h.mono tW.size)) (box22 hS h)))
    have hal := acc22_len (unhide HKS) pre
    have hpl : pre.length * (100000 + 1) ≤ 1000 * 100001 := Nat.mul_le_mul (by omega) (by omega)
    have hkx := unhide HKS x
    have HAC := hide (acc22_app ks pre x)
    have HSB := hide hsb
    have hkl : (ks x).data.toList.length = (ks x).size := by show (ks x).data.toList.length = (ks x).data.size; simp
    obtain ⟨kt, hkt⟩ : ∃ kt : ByteArray, kt = ⟨((ks x).data.toList ++ [0]).toArray⟩ := ⟨_, rfl⟩
    have hk1 : kt.data.toList = (ks x).data.toList ++ [0] := by rw [hkt]
    have hk2 : kt.size = (ks x).size + 1 := by
      have : kt.size = kt.data.toList.length := by show kt.data.size = _; simp
      rw [this, hk1, List.length_append, hkl]
      rfl
    rw [← hkt] at CQ
    rw [← hk1] at HAC
    have HKT := hide hkt
    have HBL := hide hbl
    have HN := hide hn
    clear hkt hk1 hR hS hsb hkl hbl hn
    generalize vs x = u at *
    gi_wp2_with (first
      | (refine ⟨trivial, ?_⟩; gi_at_call 43; refine (CallsIn.inRound lz (callsIn_wide.2 (wrs22 _ _ _ _ _ ((unhide HSB).keep b3) (by omega) (by have := b3.size; omega)))).mono ?_; rintro e w4 ⟨⟨ne, rfl⟩, hs4, b4, o4⟩)
      | (refine ⟨trivial, ?_⟩; gi_at_call 42; refine (CallsIn.inRound lz (callsIn_wide.2 (unhide CQ))).mono ?_; rintro e w3 ⟨rfl, b3⟩))
    have hbl := unhide HBL
    have hn := unhide HN
    have hb3 : Below (w2.heap.size + 1 + 1) W w3 := b3.mono (by omega)
    have hn3 := (b3.block _ (S18.blk_lt hn)).trans hn
    have hn4 : w4.heap[w2.heap.size + 1 + 1 + 1]? = some (.cells #[.slice na N.length nc] 57) := o4 _ _ hn3 (by simp) (fun c fz h => by injection h with _ h2 _; exact absurd h2 (by decide))
    refine ⟨⟨Nat.le_trans b3.size b4.size, fun k o _ hk ho => ?_⟩, ⟨hn4.trans hn.symm, (b4.block _ (by omega)).trans (hb3.block _ (by omega))⟩, ?_, hbl.trans (hb3.trans b4), hn4⟩
    · have hk3 := (b3.block _ (Array.getElem?_eq_some_iff.1 hk).1).trans hk
      refine o4 _ _ hk3 (fun e => ?_) (fun c fz h => by rw [h] at ho; cases ho)
      cases e
      obtain ⟨cs, tt, fz, hc⟩ : ∃ cs tt fz, w3.heap[w2.heap.size + 1 + 1]? = some (.cells cs tt fz) := by
        rcases (unhide HSB).keep b3 with ⟨_, v, h, _⟩ | ⟨_, v, h, _⟩ <;> exact ⟨_, _, _, h⟩
      rw [hc] at hk3
      cases hk3
      cases ho
    · rw [unhide HAC]
      exact hs4
  case done =>
    rintro D xs W hD rfl ⟨hsb, hbl, hn⟩ hK
    have hsz := hbl.size
    have y1 := (hbl.block _ (by omega)).trans (unhide HX).2.2.2.1
    have y2 := (hbl.block _ (by omega)).trans (unhide HX).2.2.2.2
    have CS := hide (str22 _ _ _ W hsb (by omega))
    have tW : Below w.heap.size w W := (unhide HT2).trans (hbl.mono (by omega))
    have HBL := hide hbl
    have HK := hide hK
    have HY := hide (And.intro y1 y2)
    clear hsb hbl hn hK y1 y2
    obtain ⟨out, hout⟩ : ∃ out, out = acc22 ks (dn22 N.length N.length) := ⟨_, rfl⟩
    rw [← hout] at CS
    have HOUT := hide hout
    clear hout
    gi_wp2_with (refine ⟨trivial, ?_⟩; gi_at_call 44; refine (callsIn_wide.2 (unhide CS)).mono ?_; rintro e w7 ⟨rfl, b7, o7⟩; have q1 := S18.blk_cell ((b7.block _ (by omega)).trans (unhide HY).1) 0; have q2 := S18.blk_cell ((b7.block _ (by omega)).trans (unhide HY).2) 0; have f1 := Lib.frozen_of_heap ((b7.block _ (by omega)).trans (unhide HY).1) 0; have f2 := Lib.frozen_of_heap ((b7.block _ (by omega)).trans (unhide HY).2) 0)
    have hn7 := o7 D _ (unhide HK) (by simp; omega) (fun c fz h => by cases h)
    have Y1 := (b7.block (w.heap.size + 1) (by omega)).trans (unhide HY).1
    have Y2 := (b7.block (w.heap.size + 1 + 1) (by omega)).trans (unhide HY).2
    have S1 := set_box (u := .string ⟨out.toArray⟩) Y1
    have S2 := set_box (u := .int .i64 0) ((Below.heap_setCell w7 ⟨w.heap.size + 1, 0, none⟩ (.string ⟨out.toArray⟩) (w.heap.size + 1 + 1) (by simp)).trans Y2)
    have S1' := (Below.heap_setCell (w7.setCell ⟨w.heap.size + 1, 0, none⟩ (.string ⟨out.toArray⟩)) ⟨w.heap.size + 1 + 1, 0, none⟩ (.int .i64 0) (w.heap.size + 1) (by simp)).trans S1
    have SD := (Below.heap_setCell (w7.setCell ⟨w.heap.size + 1, 0, none⟩ (.string ⟨out.toArray⟩)) ⟨w.heap.size + 1 + 1, 0, none⟩ (.int .i64 0) D (by simp; omega)).trans ((Below.heap_setCell w7 ⟨w.heap.size + 1, 0, none⟩ (.string ⟨out.toArray⟩) D (by simp; omega)).trans hn7)
    have BF : Below w.heap.size w ((w7.setCell ⟨w.heap.size + 1, 0, none⟩ (.string ⟨out.toArray⟩)).setCell ⟨w.heap.size + 1 + 1, 0, none⟩ (.int .i64 0)) := ((tW.trans (b7.mono (by omega))).setCell (by simp) _).setCell (by simp; omega) _
    refine ⟨by simp, .inl ⟨_, _, rfl, run_takeDeferred SD, ?_⟩⟩
    refine ⟨_, res_cells22 rfl _ _ (w.heap.size + 1) (w.heap.size + 1 + 1) ⟨out.toArray⟩ 0 rfl rfl ?_ ?_, ret_se22 (by rw [unhide HOUT]), ?_⟩
    · exact S18.blk_cell ((World.putObj_heap_other (by omega)).trans S1') 0
    · exact S18.blk_cell ((World.putObj_heap_other (by omega)).trans S2) 0
    · exact BF.trans (belowK_b (w := w) (Nat.le_refl _) _ D _ _ (by omega) SD rfl rfl)
  case stop => exact fun _ _ _ _ _ _ h => h.elim
end Go.Proofs.YtefobkgifigclaaGreatDoor
