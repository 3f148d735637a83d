/- The landed has, meet, and the closures of layer 21. -/
import Derived.Test.YtjjildpdelkejaaM14
namespace Go.Proofs.Ytjjildpdelkejaa
open Go.RowKit

theorem anyN_yes {l : List Ty} {p : Ty → Bool} {k : Nat} (hk : k < l.length) (h : p (l.getD k ty0) = true) : l.any p = true := by
  rw [List.any_eq_true]
  exact ⟨l.getD k ty0, by simp [List.getD, hk], h⟩
theorem anyN_no {l : List Ty} {p : Ty → Bool} (h : ∀ k, k < l.length → p (l.getD k ty0) = false) : l.any p = false := by
  rw [List.any_eq_false]
  intro y hy
  obtain ⟨i, hi, rfl⟩ := List.getElem_of_mem hy
  have := h i hi
  simpa [List.getD, hi] using this
theorem anyT_yes {l : List ByteArray} {p : ByteArray → Bool} {k : Nat} (hk : k < l.length) (h : p (l.getD k te) = true) : l.any p = true := by
  rw [List.any_eq_true]
  exact ⟨l.getD k te, by simp [List.getD, hk], h⟩
theorem anyT_no {l : List ByteArray} {p : ByteArray → Bool} (h : ∀ k, k < l.length → p (l.getD k te) = false) : l.any p = false := by
  rw [List.any_eq_false]
  intro y hy
  obtain ⟨i, hi, rfl⟩ := List.getElem_of_mem hy
  have := h i hi
  simpa [List.getD, hi] using this
set_option maxHeartbeats 1600000 in
theorem idxN_any (g : Nat) (lb : Array Value) (p : Ty → Bool) (v : Value) (l : List Ty) (w : World) (eg : ∀ args w, (callFunc g args).run Try.prog w = .ok (.enter g args) w) (hV : TysV w v l)
    (hf : ∀ (W : World) (x : Ty), Below w.heap.size w W → Calls Try.prog g (#[aggV x] ++ lb) W fun e w' => e = .returned (.bool (p x)) ∧ Below W.heap.size W w') :
    Calls Try.prog 74 #[v, .func (.func g) #[] lb] w fun e w' => ∃ z : Int, e = .returned (.int .i64 z) ∧ decide (0 ≤ z) = l.any p ∧ Below w.heap.size w w' := by
  have HF := hide hf
  obtain ⟨a, cap, rfl, hn, hc⟩ := hV
  have HC := hide hc
  have hn2 : (l.length : Int) ≤ 9223372036854775807 := by omega
  clear hf hc
  go_enter Try.func74, Try.ntmps74
  go_wp2
  go_loopw [8] (fun i wr => ∃ k : Nat, k ≤ l.length ∧ i = .int .i64 (k : Int) ∧ Hid (∀ j, j < k → p (l.getD j ty0) = false) ∧ Below w.heap.size w wr) (fun i _ => l.length - (intOf i).toNat)
  case atStart => exact ⟨0, Nat.zero_le _, rfl, fun j hj => absurd hj (Nat.not_lt_zero _), Below.refl _ _⟩
  case round =>
    obtain ⟨k, hk, rfl, HK, hb⟩ := hrel
    have hsz := hb.size
    by_cases hlt : k < l.length
    · have hzl : (k : Int) < (l.length : Int) := by omega
      have hz0 : (0 : Int) ≤ (k : Int) := by omega
      obtain ⟨b, off, rfl, hcc⟩ := unhide HC (by omega)
      obtain ⟨q0, q1, q2, q3, q4, q5⟩ := (hcc k hlt).below hb
      have HY : Hid (p (l.getD k ty0) = true → l.any p = true) := fun h => anyN_yes hlt h
      have HN : Hid (p (l.getD k ty0) = false → ∀ j, j < k + 1 → p (l.getD j ty0) = false) := fun h j hj => by
        by_cases e : j = k
        · rw [e]; exact h
        · exact unhide HK j (by omega)
      have hcl := unhide HF wr (l.getD k ty0) hb
      clear hcc HC HK HF
      generalize l.getD k ty0 = x at *
      unfold aggV at hcl
      cases hp : p x <;> rw [hp] at hcl
      · have HK2 := hide (unhide HN hp)
        clear hp HY HN
        go_wp2_with (refine hcl.mono ?_; rintro e w2 ⟨rfl, b2⟩)
        go_roundw
        case rel => exact ⟨k + 1, by omega, by go_num, unhide HK2, hb.trans (b2.mono hsz)⟩
        case measure => simp [intOf]; omega
      · have HE := hide (unhide HY hp)
        clear hp HY HN
        go_wp2_with (refine hcl.mono ?_; rintro e w2 ⟨rfl, b2⟩)
        go_ret
        exact ⟨_, rfl, by rw [unhide HE]; exact decide_eq_true hz0, hb.trans (b2.mono hsz)⟩
    · have hzl : ¬ (k : Int) < (l.length : Int) := by omega
      obtain rfl : k = l.length := by omega
      have HE := hide (anyN_no (unhide HK))
      clear HK HC HF
      go_wp2
      go_ret
      exact ⟨_, rfl, by rw [unhide HE]; rfl, hb⟩
set_option maxHeartbeats 1600000 in
theorem idxS_any (g : Nat) (lb : Array Value) (p : ByteArray → Bool) (v : Value) (l : List ByteArray) (w : World) (eg : ∀ args w, (callFunc g args).run Try.prog w = .ok (.enter g args) w) (hV : TsV w v l)
    (hf : ∀ (W : World) (x : ByteArray), Below w.heap.size w W → Calls Try.prog g (#[.string x] ++ lb) W fun e w' => e = .returned (.bool (p x)) ∧ Below W.heap.size W w') :
    Calls Try.prog 57 #[v, .func (.func g) #[] lb] w fun e w' => ∃ z : Int, e = .returned (.int .i64 z) ∧ decide (0 ≤ z) = l.any p ∧ Below w.heap.size w w' := by
  have HF := hide hf
  obtain ⟨a, cap, rfl, hn, hc⟩ := hV
  have HC := hide hc
  have hn2 : (l.length : Int) ≤ 9223372036854775807 := by omega
  clear hf hc
  go_enter Try.func57, Try.ntmps57
  go_wp2
  go_loopw [8] (fun i wr => ∃ k : Nat, k ≤ l.length ∧ i = .int .i64 (k : Int) ∧ Hid (∀ j, j < k → p (l.getD j te) = false) ∧ Below w.heap.size w wr) (fun i _ => l.length - (intOf i).toNat)
  case atStart => exact ⟨0, Nat.zero_le _, rfl, fun j hj => absurd hj (Nat.not_lt_zero _), Below.refl _ _⟩
  case round =>
    obtain ⟨k, hk, rfl, HK, hb⟩ := hrel
    have hsz := hb.size
    by_cases hlt : k < l.length
    · have hzl : (k : Int) < (l.length : Int) := by omega
      have hz0 : (0 : Int) ≤ (k : Int) := by omega
      obtain ⟨b, off, rfl, hcc⟩ := unhide HC (by omega)
      have q0 := (hb.cell (cell_lt (hcc k hlt))).trans (hcc k hlt)
      have HY : Hid (p (l.getD k te) = true → l.any p = true) := fun h => anyT_yes hlt h
      have HN : Hid (p (l.getD k te) = false → ∀ j, j < k + 1 → p (l.getD j te) = false) := fun h j hj => by
        by_cases e : j = k
        · rw [e]; exact h
        · exact unhide HK j (by omega)
      have hcl := unhide HF wr (l.getD k te) hb
      clear hcc HC HK HF
      generalize l.getD k te = x at *
      cases hp : p x <;> rw [hp] at hcl
      · have HK2 := hide (unhide HN hp)
        clear hp HY HN
        go_wp2_with (refine hcl.mono ?_; rintro e w2 ⟨rfl, b2⟩)
        go_roundw
        case rel => exact ⟨k + 1, by omega, by go_num, unhide HK2, hb.trans (b2.mono hsz)⟩
        case measure => simp [intOf]; omega
      · have HE := hide (unhide HY hp)
        clear hp HY HN
        go_wp2_with (refine hcl.mono ?_; rintro e w2 ⟨rfl, b2⟩)
        go_ret
        exact ⟨_, rfl, by rw [unhide HE]; exact decide_eq_true hz0, hb.trans (b2.mono hsz)⟩
    · have hzl : ¬ (k : Int) < (l.length : Int) := by omega
      obtain rfl : k = l.length := by omega
      have HE := hide (anyT_no (unhide HK))
      clear HK HC HF
      go_wp2
      go_ret
      exact ⟨_, rfl, by rw [unhide HE]; rfl, hb⟩
set_option maxHeartbeats 800000 in
theorem conN_any (g : Nat) (lb : Array Value) (p : Ty → Bool) (v : Value) (l : List Ty) (w : World) (eg : ∀ args w, (callFunc g args).run Try.prog w = .ok (.enter g args) w) (hV : TysV w v l)
    (hf : ∀ (W : World) (x : Ty), Below w.heap.size w W → Calls Try.prog g (#[aggV x] ++ lb) W fun e w' => e = .returned (.bool (p x)) ∧ Below W.heap.size W w') :
    Calls Try.prog 59 #[v, .func (.func g) #[] lb] w fun e w' => e = .returned (.bool (l.any p)) ∧ Below w.heap.size w w' := by
  have HI := hide (idxN_any g lb p v l w eg hV hf)
  obtain ⟨a, cap, rfl, hn, hc⟩ := hV
  clear hf hc eg
  generalize l.any p = R at *
  go_enter Try.func59, Try.ntmps59
  go_wp2_with (go_at_call 74; refine (unhide HI).mono ?_; rintro e w2 ⟨z, rfl, hz, b2⟩)
  go_ret
  exact ⟨rfl, b2⟩
set_option maxHeartbeats 800000 in
theorem conS_any (g : Nat) (lb : Array Value) (p : ByteArray → Bool) (v : Value) (l : List ByteArray) (w : World) (eg : ∀ args w, (callFunc g args).run Try.prog w = .ok (.enter g args) w) (hV : TsV w v l)
    (hf : ∀ (W : World) (x : ByteArray), Below w.heap.size w W → Calls Try.prog g (#[.string x] ++ lb) W fun e w' => e = .returned (.bool (p x)) ∧ Below W.heap.size W w') :
    Calls Try.prog 61 #[v, .func (.func g) #[] lb] w fun e w' => e = .returned (.bool (l.any p)) ∧ Below w.heap.size w w' := by
  have HI := hide (idxS_any g lb p v l w eg hV hf)
  obtain ⟨a, cap, rfl, hn, hc⟩ := hV
  clear hf hc eg
  generalize l.any p = R at *
  go_enter Try.func61, Try.ntmps61
  go_wp2_with (go_at_call 57; refine (unhide HI).mono ?_; rintro e w2 ⟨z, rfl, hz, b2⟩)
  go_ret
  exact ⟨rfl, b2⟩
theorem cell_one (w : World) (v : Value) (T : TypeId) : (w.alloc (.cells #[v] T)).cell? ⟨w.heap.size, 0, none⟩ = some v := by
  unfold World.cell?
  rw [show (w.alloc (.cells #[v] T)).heap[(⟨w.heap.size, 0, none⟩ : Addr).block]? = _ from heap_new w _]
  rfl
/-! The closures. -/
theorem has1_eg : ∀ args w, (callFunc 60 args).run Try.prog w = .ok (.enter 60 args) w := enters_of Try.func60 (by kernel_rfl) rfl
theorem has_eg : ∀ args w, (callFunc 38 args).run Try.prog w = .ok (.enter 38 args) w := enters_of Try.func38 (by kernel_rfl) rfl
theorem meet1_eg : ∀ args w, (callFunc 62 args).run Try.prog w = .ok (.enter 62 args) w := enters_of Try.func62 (by kernel_rfl) rfl
theorem fit1_eg : ∀ args w, (callFunc 42 args).run Try.prog w = .ok (.enter 42 args) w := enters_of Try.func42 (by kernel_rfl) rfl
theorem need1_eg : ∀ args w, (callFunc 34 args).run Try.prog w = .ok (.enter 34 args) w := enters_of Try.func34 (by kernel_rfl) rfl
set_option maxHeartbeats 1600000 in
theorem has1_any (b : Nat) (n : ByteArray) (a : Ty) (w : World) (hb : w.cell? ⟨b, 0, none⟩ = some (.string n)) : Calls Try.prog 60 (#[aggV a] ++ #[.pointer (some ⟨b, 0, none⟩)]) w fun e w' => e = .returned (.bool (decide (a.nam = n))) ∧ Below w.heap.size w w' := by
  have b0 := Below.one w (.cells #[.string a.nam, .string a.abv, .int .i64 a.syn, .int .i64 a.rul, .bool a.sgl, .bool a.cls] 65)
  have B0 : Bt w.heap.size a (w.alloc (.cells #[.string a.nam, .string a.abv, .int .i64 a.syn, .int .i64 a.rul, .bool a.sgl, .bool a.cls] 65)) := heap_new w _
  have c0 := B0.cells.1
  have k0 := (b0.cell (cell_lt hb)).trans hb
  have hq := txt_beq a.nam n
  clear hb B0
  unfold aggV
  generalize decide (a.nam = n) = R at *
  go_enter Try.func60, Try.ntmps60
  go_wp2
  go_ret
  exact ⟨rfl, b0⟩
set_option maxHeartbeats 1600000 in
theorem has_any (v : Value) (l : List Ty) (n : ByteArray) (w : World) (hV : TysV w v l) : Calls Try.prog 38 #[v, .string n] w fun e w' => e = .returned (.bool (hasN l n)) ∧ Below w.heap.size w w' := by
  have hmf : ∀ (fn : Fn) (first cap : Array Value) (w : World), (Instr.makeFunc fn first cap).run Try.prog w = .ok (.func fn first cap) w := fun _ _ _ _ => rfl
  have b0 := Below.one w (.cells #[.string n] 9)
  have k0 : (w.alloc (.cells #[.string n] 9)).cell? ⟨w.heap.size, 0, none⟩ = some (.string n) := cell_one w _ _
  have C := hide (conN_any _ #[.pointer (some ⟨w.heap.size, 0, none⟩)] (fun x => decide (x.nam = n)) v l (w.alloc (.cells #[.string n] 9)) has1_eg (hV.below b0) (fun W x hW => has1_any w.heap.size n x W ((hW.cell (cell_lt k0)).trans k0)))
  obtain ⟨va, vc, rfl⟩ := hV.shape
  clear hV k0
  unfold hasN
  generalize (l.any fun x => decide (x.nam = n)) = R at *
  go_enter Try.func38, Try.ntmps38
  go_wp2_with (go_at_call 59; refine (unhide C).mono ?_; rintro e w2 ⟨rfl, b2⟩)
  go_ret
  exact ⟨rfl, b0.trans (b2.mono b0.size)⟩
set_option maxHeartbeats 800000 in
theorem meet1_any (b : Nat) (v : Value) (L : List ByteArray) (x : ByteArray) (w : World) (hb : w.cell? ⟨b, 0, none⟩ = some v) (hV : TsV w v L) : Calls Try.prog 62 (#[.string x] ++ #[.pointer (some ⟨b, 0, none⟩)]) w fun e w' => e = .returned (.bool (hasT L x)) ∧ w = w' := by
  have C := hide (containsT_any v L x w hV)
  obtain ⟨a, cap, rfl, _⟩ := hV
  generalize hasT L x = R at *
  go_enter Try.func62, Try.ntmps62
  go_wp2_with (go_at_call 35; refine (unhide C).mono ?_; rintro e w2 ⟨rfl, rfl⟩)
  go_ret
  exact ⟨rfl, rfl⟩
set_option maxHeartbeats 800000 in
theorem fit1_any (b : Nat) (v : Value) (L : List ByteArray) (x : ByteArray) (w : World) (hb : w.cell? ⟨b, 0, none⟩ = some v) (hV : TsV w v L) : Calls Try.prog 42 (#[.string x] ++ #[.pointer (some ⟨b, 0, none⟩)]) w fun e w' => e = .returned (.bool (hasT L x)) ∧ w = w' := by
  have C := hide (containsT_any v L x w hV)
  obtain ⟨a, cap, rfl, _⟩ := hV
  generalize hasT L x = R at *
  go_enter Try.func42, Try.ntmps42
  go_wp2_with (go_at_call 35; refine (unhide C).mono ?_; rintro e w2 ⟨rfl, rfl⟩)
  go_ret
  exact ⟨rfl, rfl⟩
set_option maxHeartbeats 800000 in
theorem need1_any (b : Nat) (v : Value) (L : List ByteArray) (x : ByteArray) (w : World) (hb : w.cell? ⟨b, 0, none⟩ = some v) (hV : TsV w v L) : Calls Try.prog 34 (#[.string x] ++ #[.pointer (some ⟨b, 0, none⟩)]) w fun e w' => e = .returned (.bool (hasT L x)) ∧ w = w' := by
  have C := hide (containsT_any v L x w hV)
  obtain ⟨a, cap, rfl, _⟩ := hV
  generalize hasT L x = R at *
  go_enter Try.func34, Try.ntmps34
  go_wp2_with (go_at_call 35; refine (unhide C).mono ?_; rintro e w2 ⟨rfl, rfl⟩)
  go_ret
  exact ⟨rfl, rfl⟩
set_option maxHeartbeats 1600000 in
theorem meet_any (va vb : Value) (A L : List ByteArray) (w : World) (hA : TsV w va A) (hL : TsV w vb L) : Calls Try.prog 39 #[va, vb] w fun e w' => e = .returned (.bool (A.any fun x => hasT L x)) ∧ Below w.heap.size w w' := by
  have hmf : ∀ (fn : Fn) (first cap : Array Value) (w : World), (Instr.makeFunc fn first cap).run Try.prog w = .ok (.func fn first cap) w := fun _ _ _ _ => rfl
  have b0 := Below.one w (.cells #[vb] 32)
  have k0 : (w.alloc (.cells #[vb] 32)).cell? ⟨w.heap.size, 0, none⟩ = some vb := cell_one w _ _
  have C := hide (conS_any _ #[.pointer (some ⟨w.heap.size, 0, none⟩)] (fun x => hasT L x) va A (w.alloc (.cells #[vb] 32)) meet1_eg (hA.below b0) (fun W x hW => (meet1_any w.heap.size vb L x W ((hW.cell (cell_lt k0)).trans k0) ((hL.below b0).below hW)).mono fun _ _ ⟨h1, h2⟩ => ⟨h1, by rw [← h2]; exact Below.refl _ _⟩))
  obtain ⟨a, ca, rfl, _⟩ := hA
  obtain ⟨b, cb, rfl, _⟩ := hL
  clear k0
  generalize (A.any fun x => hasT L x) = R at *
  go_enter Try.func39, Try.ntmps39
  go_wp2_with (go_at_call 61; refine (unhide C).mono ?_; rintro e w2 ⟨rfl, b2⟩)
  go_ret
  exact ⟨rfl, b0.trans (b2.mono b0.size)⟩
end Go.Proofs.Ytjjildpdelkejaa
