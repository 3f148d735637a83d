/- The document's Show of layer 17. -/
import Derived.Test.YtifalmpcjkpodaaDoorRUnd17
import Derived.Test.YtifalmpcjkpodaaDoorRDig17
namespace Go.Proofs.YtifalmpcjkpodaaDoor
set_option maxRecDepth 100000
open Go.RowKit

/-- What Show tells. -/
def shS (l : List Int) : ByteArray := if okO l then strOfNums (showO l) else strOfNums []
theorem showO_one (x : Int) : showO [x] = digN x.toNat := by simp [showO, joinO]
set_option maxHeartbeats 1600000 in
theorem rshow_yes (b off cap : Nat) (l : List Int) (w : World) (ho : okO l = true)
    (hc : ∀ j, j < l.length → w.cell? ⟨b, off + j, none⟩ = some (.int .i64 (l.getD j 0))) :
    Calls Tryd.prog 11 #[.slice (some ⟨b, off, none⟩) l.length cap] w fun e w' => e = .returned (.tuple #[.string (strOfNums (showO l)), .int .i64 0]) ∧ Gr w w' := by
  have hR : Row w (.slice (some ⟨b, off, none⟩) l.length cap) l := ⟨_, _, rfl, fun _ => ⟨b, off, rfl, hc⟩⟩
  have C1 := rcheck_any _ l w hR (by have := okO_len ho; omega)
  rw [chk_yes ho] at C1
  clear hR
  have hl := okO_len ho
  have HA : Hid (∀ k, k < l.length → 0 ≤ l.getD k 0 ∧ l.getD k 0 ≤ 99999) := fun k hk => okO_at ho k hk
  have HSZ : Hid (∀ k, k ≤ l.length → (showO (l.take k)).length ≤ 1000) := fun k hk => by
    have hm : ∀ x, x ∈ l.take k → 0 ≤ x ∧ x ≤ 99999 := fun x hx => okO_mem ho x (List.mem_of_mem_take hx)
    have hk2 : (l.take k).length ≤ 12 := by simp; omega
    cases hq : l.take k with
    | nil => simp [showO]
    | cons y t =>
      rw [hq] at hm hk2
      have h3 := joinO_len t fun x hx => hm x (by simp [hx])
      have h4 := digN_len 4 y.toNat (by have := hm y (by simp); omega)
      simp only [showO, List.length_append, List.length_cons] at hk2 ⊢
      omega
  have c0 := hc 0 (by omega)
  rw [Nat.add_zero] at c0
  have HC := hide hc
  clear hc ho
  have p0 : (0 : Int) < l.length := by omega
  have HD : Hid (∀ k, k < l.length → ∀ W, Calls Tryd.prog 25 #[.int .i64 (l.getD k 0)] W fun e w' => e = .returned (.string (strOfNums (digN (l.getD k 0).toNat))) ∧ Gr W w') := fun k hk W => by
    have hb := unhide HA k hk
    have := rdig_any (l.getD k 0).toNat W (by omega)
    rwa [show (((l.getD k 0).toNat : Nat) : Int) = l.getD k 0 by omega] at this
  have D0 := unhide HD 0 (by omega)
  have E0' : strOfNums (digN (l.getD 0 0).toNat) = strOfNums (showO (l.take 1)) := by
    rw [take_snoc l 0 (by omega)]
    simp [showO, joinO]
  have E0 := hide E0'
  clear E0'
  generalize l.getD 0 0 = x0 at *
  go_enter Tryd.func11, Tryd.ntmps11
  go_wp2_with (first | (go_at_call 25; refine (D0 _).mono ?_; rintro e w1 ⟨rfl, hg1⟩) | (go_at_call 13; refine C1.mono ?_; rintro e w' ⟨rfl, rfl⟩))
  go_loopw [4, 5] (fun o i wr => ∃ k : Nat, 1 ≤ k ∧ k ≤ l.length ∧ i = .int .i64 k ∧ o = .string (strOfNums (showO (l.take k))) ∧ Gr w' wr) (fun _ i _ => l.length - (intOf i).toNat)
  case atStart => exact ⟨1, Nat.le_refl _, by omega, rfl, by rw [← unhide E0], hg1⟩
  case round =>
    obtain ⟨k, hk1, hk, rfl, rfl, hnx⟩ := hrel
    by_cases hlt : k < l.length
    · have hzl : (k : Int) < (l.length : Int) := by omega
      have hz0 : (0 : Int) ≤ (k : Int) := by omega
      have g1 := unhide HC k hlt
      have k1 : wr.cell? ⟨b, off + k, none⟩ = some (.int .i64 (l.getD k 0)) := hnx.cell g1
      have DK := unhide HD k hlt
      have hsn := hide (take_snoc l k hlt)
      have hb := unhide HA k hlt
      have hs1 := unhide HSZ k hk
      have hs2 := digN_len 4 (l.getD k 0).toNat (by omega)
      have hne : l.take k ≠ [] := fun e => by have := congrArg List.length e; rw [List.length_take, List.length_nil] at this; omega
      have E1' : strOfNums (showO (l.take k)) ++ strOfNums [46] ++ strOfNums (digN (l.getD k 0).toNat) = strOfNums (showO (l.take (k + 1))) := by
        rw [unhide hsn, showO_snoc _ _ hne, strOfNums_app, strOfNums_app]
        simp
      have E1 := hide E1'
      clear E1'
      have e46 : (ByteArray.mk #[46]).size = 1 := rfl
      have hz1 : (strOfNums (showO (l.take k))).size + (ByteArray.mk #[46]).size ≤ 9223372036854775807 := by rw [strOfNums_size, e46]; omega
      have hz2 : (strOfNums (showO (l.take k)) ++ (ByteArray.mk #[46])).size + (strOfNums (digN (l.getD k 0).toNat)).size ≤ 9223372036854775807 := by rw [ByteArray.size_append, strOfNums_size, strOfNums_size, e46]; omega
      clear g1 hs1 hs2 hne e46
      generalize l.getD k 0 = x at *
      go_wp2_with (go_at_call 25; refine (DK _).mono ?_; rintro e w2 ⟨rfl, hg2⟩)
      go_roundw
      case rel => exact ⟨k + 1, by omega, by omega, by go_num, by rw [← unhide E1]; rfl, hnx.trans hg2⟩
      case measure => simp [intOf]; omega
    · have hzl : ¬ (k : Int) < (l.length : Int) := by omega
      go_wp2
      go_ret2
      have e : k = l.length := by omega
      exact ⟨ret_se (by rw [e, List.take_length]) rfl, hnx⟩
set_option maxHeartbeats 800000 in
theorem rshow_any (a : Option Addr) (cap : Nat) (l : List Int) (w : World) (hR : Row w (.slice a l.length cap) l) (hn : l.length ≤ 9223372036854775807) :
    Calls Tryd.prog 11 #[.slice a l.length cap] w fun e w' => e = .returned (.tuple #[.string (shS l), .int .i64 (chkO l)]) ∧ Gr w w' := by
  cases ho : okO l
  · have C1 := rcheck_any _ l w hR hn
    have E : Hid (shS l = strOfNums []) := by unfold shS; rw [ho]; rfl
    rw [chk_no ho] at C1 ⊢
    clear ho hR
    go_enter Tryd.func11, Tryd.ntmps11
    go_wp2_with (go_at_call 13; refine C1.mono ?_; rintro e w' ⟨rfl, rfl⟩)
    go_ret2
    exact ⟨ret_se (unhide E).symm rfl, Gr.refl _⟩
  · have E : shS l = strOfNums (showO l) := by unfold shS; rw [ho]; rfl
    rw [E, chk_yes ho]
    obtain ⟨a', cap', e, hc⟩ := hR
    cases e
    obtain ⟨b, off, rfl, hc2⟩ := hc (by have := okO_len ho; omega)
    exact rshow_yes b off cap l w ho hc2
theorem rshow_v (v : Value) (l : List Int) (w : World) (hR : Row w v l) (hn : l.length ≤ 9223372036854775807) :
    Calls Tryd.prog 11 #[v] w fun e w' => e = .returned (.tuple #[.string (shS l), .int .i64 (chkO l)]) ∧ Gr w w' := by
  obtain ⟨a, c, rfl⟩ := hR.shape
  exact rshow_any a c l w hR hn
end Go.Proofs.YtifalmpcjkpodaaDoor
