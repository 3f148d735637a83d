/- slices.IndexFunc of types, over any function value; the closures of the landed pairKeys of layer 22. -/
import Derived.Test.YtefobkgifigclaaGreatDoorM40
import Derived.Test.YtefobkgifigclaaGreatDoorM37
import Derived.Test.YtefobkgifigclaaGreatDoorM41
import Derived.Test.YtefobkgifigclaaGreatDoorM42
import Derived.Test.YtefobkgifigclaaGreatDoorM43
import Derived.Deep.RegionHeld3
import Derived.Deep.Cut
namespace Go.Proofs.YtefobkgifigclaaGreatDoor
set_option maxRecDepth 100000
open Go.RowKit

theorem cellsT_below {w w2 : World} {b o : Nat} {t : S20.Ty} (h : S20.CellsT w b o t) (hb : Below w.heap.size w w2) : S20.CellsT w2 b o t := h.below hb
set_option maxHeartbeats 1600000 in
theorem ix22_at (g : Nat) (lb : Array Value) (p : S20.Ty → Bool) (v : Value) (l : List S20.Ty) (k : Nat) (w : World) (eg : ∀ args w, (callFunc g args).run Tryz.prog w = .ok (.enter g args) w) (hV : S20.TysV w v l) (hk : k < l.length)
    (hy : p (l.getD k S20.ty0) = true) (hn0 : ∀ j, j < k → p (l.getD j S20.ty0) = false)
    (hf : ∀ (W : World) (x : S20.Ty), Below w.heap.size w W → Calls Tryz.prog g (#[S20.aggV x] ++ lb) W fun e w' => e = .returned (.bool (p x)) ∧ Below W.heap.size W w') :
    Calls Tryz.prog 62 #[v, .func (.func g) #[] lb] w fun e w' => e = .returned (.int .i64 (k : Int)) ∧ Below w.heap.size w w' := by
  have HF := hide hf
  have HY := hide hy
  have HN := hide hn0
  obtain ⟨a, cap, rfl, hn, hc⟩ := hV
  obtain ⟨b, off, rfl, hcc⟩ := hc (by omega)
  have HC := hide hcc
  have hn2 : (l.length : Int) ≤ 9223372036854775807 := by omega
  clear hf hc hcc hy hn0
  go_enter Tryz.func62, Tryz.ntmps62
  go_wp2
  go_loopw [8] (fun i wr => ∃ j : Nat, j ≤ k ∧ i = .int .i64 (j : Int) ∧ Below w.heap.size w wr) (fun i _ => l.length - (intOf i).toNat)
  case atStart => exact ⟨0, Nat.zero_le _, rfl, Below.refl _ _⟩
  case round =>
    obtain ⟨j, hj, rfl, hb⟩ := hrel
    have hsz := hb.size
    have hzl : (j : Int) < (l.length : Int) := by omega
    have zj0 : (0 : Int) ≤ (j : Int) := by omega
    obtain ⟨q0, q1, q2, q3, q4, q5⟩ := cellsT_below (unhide HC j (by omega)) hb
    have hcl := unhide HF wr (l.getD j S20.ty0) hb
    by_cases hlt : j < k
    · rw [unhide HN j hlt] at hcl
      generalize l.getD j S20.ty0 = x at *
      unfold S20.aggV at hcl
      clear HC HF HN HY
      go_wp2_with (refine hcl.mono ?_; rintro e w2 ⟨rfl, b2⟩)
      go_roundw
      case rel => exact ⟨j + 1, by omega, by go_num, hb.trans (b2.mono hsz)⟩
      case measure => simp [intOf]; omega
    · obtain rfl : j = k := by omega
      rw [unhide HY] at hcl
      generalize l.getD j S20.ty0 = x at *
      unfold S20.aggV at hcl
      clear HC HF HN HY
      go_wp2_with (refine hcl.mono ?_; rintro e w2 ⟨rfl, b2⟩)
      go_ret
      exact ⟨rfl, hb.trans (b2.mono hsz)⟩
theorem pk2_eg : ∀ args w, (callFunc 63 args).run Tryz.prog w = .ok (.enter 63 args) w := enters_of Tryz.func63 (by kernel_rfl) rfl
theorem pk1_eg : ∀ args w, (callFunc 61 args).run Tryz.prog w = .ok (.enter 61 args) w := enters_of Tryz.func61 (by kernel_rfl) rfl
set_option maxHeartbeats 1600000 in
theorem pk2_any (b : Nat) (n : ByteArray) (a : S20.Ty) (w : World) (hb : w.cell? ⟨b, 0, none⟩ = some (.string n)) : Calls Tryz.prog 63 (#[S20.aggV a] ++ #[.pointer (some ⟨b, 0, none⟩)]) w fun e w' => e = .returned (.bool (decide (a.nam = n))) ∧ Below w.heap.size w w' := by
  have b0 := Below.one w (.cells #[.string a.nam, .string a.abv, .int .i64 a.syn, .int .i64 a.rul, .bool a.sgl, .bool a.cls] 67)
  have B0 : S20.Bt w.heap.size a (w.alloc (.cells #[.string a.nam, .string a.abv, .int .i64 a.syn, .int .i64 a.rul, .bool a.sgl, .bool a.cls] 67)) := heap_new w _
  have c0 := B0.cells.1
  have k0 := (b0.cell (cell_lt hb)).trans hb
  have hq := S20.txt_beq a.nam n
  clear hb B0
  unfold S20.aggV
  generalize decide (a.nam = n) = R at *
  go_enter Tryz.func63, Tryz.ntmps63
  go_wp2
  go_ret
  exact ⟨rfl, b0⟩
/-- The key of a pair. -/
def pairS (n k : ByteArray) : ByteArray := n ++ ⟨#[61]⟩ ++ strOfNums (escI (S18.nums k))
theorem box22 {w w2 : World} {b : Nat} {cs : Array Value} {T : TypeId} (h : w.heap[b]? = some (.cells cs T)) (hb : Below w.heap.size w w2) : w2.heap[b]? = some (.cells cs T) := (hb.block _ (S18.blk_lt h)).trans h
theorem esc_size (k : ByteArray) : (strOfNums (escI (S18.nums k))).size ≤ 2 * k.size := by
  have h := escI_len (S18.nums k)
  rw [S18.nums_length] at h
  have e : (strOfNums (escI (S18.nums k))).size = (escI (S18.nums k)).length := by
    unfold strOfNums
    show ((escI (S18.nums k)).map fun n => UInt8.ofNat n.toNat).toArray.size = _
    simp
  omega
set_option maxHeartbeats 3200000 in
theorem pairKey22 (bs : Nat) (n val key : ByteArray) (k : Nat) (va vb : Value) (l : List S20.Ty) (w : World) (hB : w.heap[bs]? = some (.cells #[va, vb] 38)) (hV : S20.TysV w va l) (hk : k < l.length)
    (hy : (l.getD k S20.ty0).nam = n) (hn0 : ∀ j, j < k → (l.getD j S20.ty0).nam ≠ n) (hs1 : n.size ≤ 100000) (hs2 : key.size ≤ 100000)
    (CK : ∀ W, Below w.heap.size w W → Calls Tryz.prog 22 #[.agg #[va, vb], .int .i64 (l.getD k S20.ty0).rul, .string val] W fun e w' => e = .returned (.tuple #[.string key, .int .i64 0]) ∧ Below W.heap.size W w') :
    Calls Tryz.prog 61 (#[.agg #[.string n, .string val]] ++ #[.pointer (some ⟨bs, 0, none⟩)]) w fun e w' => e = .returned (.tuple #[.string (pairS n key), .int .i64 0]) ∧ Below w.heap.size w w' := by
  have hmf : ∀ (fn : Fn) (first cap : Array Value) (w : World), (Instr.makeFunc fn first cap).run Tryz.prog w = .ok (.func fn first cap) w := fun _ _ _ _ => rfl
  have mx : Tryz.prog.follows .mixedOrders = true := by kernel_rfl
  have b0 := Below.one w (.cells #[.string n, .string val] 53)
  have hP : (w.alloc (.cells #[.string n, .string val] 53)).heap[w.heap.size]? = some (.cells #[.string n, .string val] 53) := heap_new w _
  have hB0 := box22 hB b0
  have hV0 := hV.below b0
  have CI := hide (ix22_at _ #[.pointer (some ⟨w.heap.size, 0, none⟩)] (fun x => decide (x.nam = n)) va l k _ pk2_eg hV0 hk (decide_eq_true hy) (fun j hj => decide_eq_false (hn0 j hj)) (fun W x hW => pk2_any w.heap.size n x W (S18.blk_cell (box22 hP hW) 0)))
  have CE := hide (fun W => escaped22 key W hs2)
  have HE : Hid (n ++ ⟨#[61]⟩ ++ strOfNums (escI (S18.nums key)) = pairS n key) := rfl
  have he := esc_size key
  generalize strOfNums (escI (S18.nums key)) = ke at *
  generalize pairS n key = out at *
  obtain ⟨a, cap, rfl, hn, hc⟩ := hV
  obtain ⟨b, off, rfl, hcc⟩ := hc (by omega)
  have r0 := (cellsT_below (hcc k hk) b0).2.2.2.1
  generalize (l.getD k S20.ty0).rul = r at *
  have HCK := hide CK
  have HP := hide hP
  have HB := hide hB0
  have s0 := S18.blk_cell hB0 0
  have s1 := S18.blk_cell hB0 1
  have zk0 : (0 : Int) ≤ (k : Int) := by omega
  have zkl : (k : Int) < (l.length : Int) := by omega
  have z1 : n.size + 1 ≤ 9223372036854775807 := by omega
  have z2 : n.size + 1 + ke.size ≤ 9223372036854775807 := by omega
  clear hV0 hn0 hy hc hcc hB CK hP hB0
  go_enter Tryz.func61, Tryz.ntmps61
  go_upto_region 4 with (go_at_call 62; refine (unhide CI).mono ?_; rintro e w2 ⟨rfl, b2⟩)
  have t2 := b0.trans (b2.mono b0.size)
  have HCK2 : Hid (∀ W, Below w2.heap.size w2 W → Calls Tryz.prog 22 #[.agg #[.slice (some ⟨b, off, none⟩) l.length cap, vb], .int .i64 r, .string val] W fun e w' => e = .returned (.tuple #[.string key, .int .i64 0]) ∧ Below W.heap.size W w') := fun W hW => unhide HCK W (t2.trans (hW.mono t2.size))
  replace s0 := (b2.cell (cell_lt s0)).trans s0
  replace s1 := (b2.cell (cell_lt s1)).trans s1
  replace r0 := (b2.cell (cell_lt r0)).trans r0
  have p0 := S18.blk_cell (box22 (unhide HP) b2) 0
  have p1 := S18.blk_cell (box22 (unhide HP) b2) 1
  replace s0 := cell_bb s0
  replace s1 := cell_bb s1
  replace r0 := cell_bb r0
  replace p0 := cell_bb p0
  replace p1 := cell_bb p1
  clear HCK HB CI
  refine wp_region_below (by first | exact mx | assumption) (by kernel_rfl) ?_
  intro nebb
  repeat (go_big_quiet_step ((go_at_call 22; exact callsBB (unhide HCK2 _ (BB.b _)))))
  refine wpQuiet_nil ?_
  intro _ hw'
  obtain ⟨pq, hw''⟩ := hw'
  subst hw''
  have bq := pq.b
  generalize pq.W = wq at *
  have tq := t2.trans (bq.mono t2.size)
  have u0 := S18.blk_cell (box22 (unhide HP) (b2.trans (bq.mono b2.size))) 0
  replace u0 := cell_bb u0
  clear s0 s1 r0 p0 p1 HCK2 HP bq b2
  go_wp2
  refine wp_region_below (by first | exact mx | assumption) (by kernel_rfl) ?_
  intro nebb
  repeat (go_big_quiet_step ((go_at_call 64; exact callsBB (unhide CE _))))
  refine wpQuiet_nil ?_
  intro _ hw'
  obtain ⟨pq, hw''⟩ := hw'
  subst hw''
  have bq := pq.b
  generalize pq.W = wq at *
  go_wp2
  refine bodyPost_ret (results_tmp2 rfl _ _ _) rfl ?_
  exact ⟨ret_se22 (unhide HE), tq.trans (bq.mono tq.size)⟩
end Go.Proofs.YtefobkgifigclaaGreatDoor
