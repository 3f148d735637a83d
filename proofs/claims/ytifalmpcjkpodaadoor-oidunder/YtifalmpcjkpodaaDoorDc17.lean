/- The landed Show of layer 17. -/
import Derived.Test.YtifalmpcjkpodaaDoorDb17
import Derived.Lib.Split
import Derived.Deep.OwnRows
namespace Go.Proofs.YtifalmpcjkpodaaDoor
set_option maxRecDepth 100000
open Go.RowKit

theorem str_mk (l : List UInt8) : (⟨l.toArray⟩ : ByteArray) = strOfNums (l.map fun b => (b.toNat : Int)) := by
  have := strOfNums_nums (⟨l.toArray⟩ : ByteArray)
  rw [← this]
  unfold nums
  simp
theorem dig_dec (u : Nat) : (Lib.decDigits u).map (fun b => (b.toNat : Int)) = digN u := by
  induction u using Nat.strongRecOn with
  | _ u ih =>
    by_cases h : u < 10
    · rw [Lib.decDigits, dif_pos h, digN_small h]
      simp
      omega
    · rw [Lib.decDigits, dif_neg h, digN_big h, List.map_append, ih (u / 10) (by omega)]
      simp
      omega
theorem itoa_any (n : Int) (w : World) (hL : Ly w) (h1 : 0 ≤ n) (h2 : n ≤ 99999) : Calls Tryd.prog 23 #[.int .i64 n] w fun e w' => e = .returned (.string (strOfNums (digN n.toNat))) ∧ Gr w w' := by
  have := itoa17 n w (by omega) (by omega) hL
  rw [str_mk] at this
  unfold Lib.itoa at this
  rw [if_neg (by omega), dig_dec] at this
  exact this
/-- The numbers' texts. -/
def txO (l : List Int) : List ByteArray := l.map fun x => strOfNums (digN x.toNat)
theorem txO_len (l : List Int) : (txO l).length = l.length := by simp [txO]
theorem join_tail (t : List Int) : Lib.joinTail [46] ((txO t).map (·.data.toList)) = (joinO t).map fun n => UInt8.ofNat n.toNat := by
  induction t with
  | nil => rfl
  | cons y t ih =>
    unfold Lib.joinTail at ih ⊢
    simp only [txO, List.map_cons, List.flatten_cons, joinO, List.map_append] at ih ⊢
    rw [ih, strOfNums_data]
    rfl
theorem join_show (l : List Int) : (⟨(Lib.join ((txO l).map (·.data.toList)) [46]).toArray⟩ : ByteArray) = strOfNums (showO l) := by
  cases l with
  | nil => rfl
  | cons y t =>
    have : Lib.join ((txO (y :: t)).map (·.data.toList)) [46] = (showO (y :: t)).map fun n => UInt8.ofNat n.toNat := by
      show Lib.join ((strOfNums (digN y.toNat)).data.toList :: (txO t).map (·.data.toList)) [46] = _
      rw [Lib.join_cons, join_tail, showO, List.map_append, strOfNums_data]
    rw [this]
    rfl
theorem join_size (l : List Int) : (Lib.join ((txO l).map (·.data.toList)) [46]).length = (showO l).length := by
  have := congrArg ByteArray.size (join_show l)
  rw [strOfNums_size] at this
  simpa [ByteArray.size] using this
/-- A block of N texts, the first of which are X. -/
def Tb (w : World) (g N : Nat) (X : List ByteArray) : Prop := w.heap[g]? = some (.cells (Lib.cellsOf X N) 9)
theorem Tb.lt {w : World} {g N : Nat} {X : List ByteArray} (h : Tb w g N X) : g < w.heap.size := (Array.getElem?_eq_some_iff.1 h).1
theorem Tb.keep {w w2 : World} {g N : Nat} {X : List ByteArray} (h : Tb w g N X) (hb : Below w.heap.size w w2) : Tb w2 g N X := (hb.block _ h.lt).trans h
theorem Tb.cell {w : World} {g N : Nat} {X : List ByteArray} (h : Tb w g N X) (k : Nat) : w.cell? ⟨g, k, none⟩ = (Lib.cellsOf X N)[k]? := by
  unfold World.cell?
  rw [show w.heap[(⟨g, k, none⟩ : Addr).block]? = w.heap[g]? from rfl, h]
  rfl
theorem Tb.free {w : World} {g N : Nat} {X : List ByteArray} (h : Tb w g N X) (k : Nat) : w.frozen? ⟨g, k, none⟩ = false := by
  unfold World.frozen?
  rw [show w.heap[(⟨g, k, none⟩ : Addr).block]? = w.heap[g]? from rfl, h]
  simp
theorem Tb.next {w : World} {g N : Nat} {X : List ByteArray} (h : Tb w g N X) (hX : X.length < N) : w.cell? ⟨g, X.length, none⟩ = some (.string ByteArray.empty) := (h.cell _).trans (Lib.cellsOf_next hX)
theorem Tb.put {w : World} {g N : Nat} {X : List ByteArray} (h : Tb w g N X) (hX : X.length < N) (x : ByteArray) : Tb (w.setCell ⟨g, X.length, none⟩ (.string x)) g N (X ++ [x]) := by
  unfold Tb
  rw [← Lib.cellsOf_set hX]
  exact heap_setCell_same w g X.length _ _ _ h
theorem Tb.at {w : World} {g N : Nat} {X : List ByteArray} (h : Tb w g N X) (j : Nat) (x : ByteArray) (hx : X[j]? = some x) : w.cell? ⟨g, j, none⟩ = some (.string x) := by
  rw [h.cell]
  have hj := (List.getElem?_eq_some_iff.1 hx).1
  unfold Lib.cellsOf
  rw [List.getElem?_toArray, List.getElem?_append_left (by simpa using hj), List.getElem?_map, hx]
  rfl
theorem Tb.made (w : World) (N : Nat) : Tb (w.alloc (.cells (madeCells #[.string ByteArray.empty] N) 9)) w.heap.size N [] := by
  unfold Tb
  rw [Lib.cellsOf_nil]
  exact heap_new _ _
theorem str_info : (Tryd.prog.info? 9).map (fun i => (i.zero, i.size, i.bytes)) = some (some (.string ByteArray.empty), 1, 16) := by kernel_rfl
theorem txO_snoc (l : List Int) (k : Nat) (h : k < l.length) : txO (l.take (k + 1)) = txO (l.take k) ++ [strOfNums (digN (l.getD k 0).toNat)] := by
  rw [take_snoc l k h]
  simp [txO]
theorem Tb.step {w : World} {g : Nat} {l : List Int} {k : Nat} (h : Tb w g l.length (txO (l.take k))) (hk : k < l.length) : w.cell? ⟨g, k, none⟩ = some (.string ByteArray.empty) ∧ w.frozen? ⟨g, k, none⟩ = false ∧ Tb (w.setCell ⟨g, k, none⟩ (.string (strOfNums (digN (l.getD k 0).toNat)))) g l.length (txO (l.take (k + 1))) := by
  have e : (txO (l.take k)).length = k := by rw [txO_len, List.length_take]; omega
  have h1 := h.next (by omega)
  have h2 := h.put (by omega) (strOfNums (digN (l.getD k 0).toNat))
  rw [e] at h1 h2
  exact ⟨h1, h.free _, by rw [txO_snoc l k hk]; exact h2⟩
set_option maxHeartbeats 1600000 in
theorem oshow_yes (b off cap : Nat) (l : List Int) (w : World) (hL : Ly w) (ho : okO l = true)
    (hc : ∀ j, j < l.length → w.cell? ⟨b, off + j, none⟩ = some (.int .i64 (l.getD j 0))) :
    Calls Tryd.prog 10 #[.slice (some ⟨b, off, none⟩) l.length cap] w fun e w' => e = .returned (.tuple #[.string (strOfNums (showO l)), .int .i64 0]) ∧ Below w.heap.size w w' := by
  have hR : Row w (.slice (some ⟨b, off, none⟩) l.length cap) l := ⟨_, _, rfl, fun _ => ⟨b, off, rfl, hc⟩⟩
  have hl := okO_len ho
  have C1 := ocheck_w _ l w (by omega) hR
  rw [chk_yes ho] at C1
  clear hR
  have HA : Hid (∀ k, k < l.length → 0 ≤ l.getD k 0 ∧ l.getD k 0 ≤ 99999) := fun k hk => okO_at ho k hk
  have HSZ := hide (showO_len l ho)
  have HC := hide hc
  clear hc ho
  have hmk := run_make_row' (P := Tryd.prog) 43 9 (.string ByteArray.empty) 16 Tryd.underlying43 str_info rfl .i64 .i64 l.length (by omega) (by omega)
  go_enter Tryd.func10, Tryd.ntmps10
  go_wp2_with (go_at_call 12; refine C1.mono ?_; rintro e w1 ⟨rfl, rfl⟩)
  clear hmk C1
  go_loopw [18] (fun i wr => ∃ k : Nat, k ≤ l.length ∧ i = .int .i64 k ∧ Hid (Tb wr w1.heap.size l.length (txO (l.take k))) ∧ Below w1.heap.size w1 wr) (fun i _ => l.length - (intOf i).toNat)
  case atStart => exact ⟨0, Nat.zero_le _, rfl, Tb.made w1 _, Below.one w1 _⟩
  case round =>
    obtain ⟨k, hk, rfl, HT, hb⟩ := hrel
    by_cases hlt : k < l.length
    · have hzl : (k : Int) < (l.length : Int) := by omega
      have hz0 : (0 : Int) ≤ (k : Int) := by omega
      have g1 := unhide HC k hlt
      have k1 : wr.cell? ⟨b, off + k, none⟩ = some (.int .i64 (l.getD k 0)) := (hb.cell (p := ⟨b, off + k, none⟩) (cell_lt g1)).trans g1
      have hA := unhide HA k hlt
      have HI := hide (itoa_any (l.getD k 0) wr (hL.keep hb) hA.1 hA.2)
      have HS := hide (fun (W : World) (h : Tb W w1.heap.size l.length (txO (l.take k))) => h.step hlt)
      clear g1 hA
      generalize l.getD k 0 = x at *
      go_wp2_with (go_at_call 23; refine (unhide HI).mono ?_; rintro e w2 ⟨rfl, hg2⟩; have HT2 := hide (unhide HS w2 ((unhide HT).keep hg2.below)); have k2 := (unhide HT2).1; have f2 := (unhide HT2).2.1)
      go_roundw
      case rel => exact ⟨k + 1, by omega, by go_num, (unhide HT2).2.2, (hb.trans (hg2.below.mono hb.size)).setCell (Nat.le_refl _) _⟩
      case measure => simp [intOf]; omega
    · have hzl : ¬ (k : Int) < (l.length : Int) := by omega
      obtain rfl : k = l.length := by omega
      rw [List.take_length] at HT
      have J := join17 w1.heap.size 0 l.length (txO l) ⟨#[46]⟩ wr (fun j x hx => by rw [Nat.zero_add]; exact (unhide HT).at j x hx) (unhide HT).lt (by rw [txO_len]; omega) (by rw [txO_len]; omega) (by
        show (Lib.join ((txO l).map (·.data.toList)) [46]).length ≤ _
        rw [join_size]; have := unhide HSZ; omega)
      have e : (⟨(Lib.join ((txO l).map (·.data.toList)) (ByteArray.mk #[46]).data.toList).toArray⟩ : ByteArray) = strOfNums (showO l) := join_show l
      rw [e, txO_len] at J
      clear e
      go_wp2_with (go_at_call 24; refine J.mono ?_; rintro e w2 ⟨rfl, hb2⟩)
      go_ret2
      exact ⟨rfl, hb.trans (hb2.mono hb.size)⟩
set_option maxHeartbeats 800000 in
theorem oshow_w (v : Value) (l : List Int) (w : World) (hL : Ly w) (hn : l.length ≤ 9223372036854775806) (hR : Row w v l) : Calls Tryd.prog 10 #[v] w fun e w' => e = .returned (.tuple #[.string (shS l), .int .i64 (chkO l)]) ∧ Below w.heap.size w w' := by
  have C1 := ocheck_w v l w hn hR
  cases ho : okO l
  · have e : shS l = ⟨#[]⟩ := by unfold shS; rw [ho]; rfl
    rw [chk_no ho] at C1 ⊢
    rw [e]
    clear e ho hR
    go_enter Tryd.func10, Tryd.ntmps10
    go_wp2_with (go_at_call 12; refine C1.mono ?_; rintro e w1 ⟨rfl, rfl⟩)
    go_ret2
    exact ⟨rfl, Below.refl _ _⟩
  · have e : shS l = strOfNums (showO l) := by unfold shS; rw [ho]; rfl
    rw [e, chk_yes ho]
    have hl := okO_len ho
    obtain ⟨a, cap, rfl, hc⟩ := hR
    obtain ⟨b, off, rfl, hcc⟩ := hc (by omega)
    exact oshow_yes b off cap l w hL ho hcc
end Go.Proofs.YtifalmpcjkpodaaDoor
