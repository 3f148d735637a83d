/- strings.IndexRune of what is no ASCII among ASCII; strings.IndexAny of a short text, strings.ContainsAny of any text, among the digits: some answer. -/
import Derived.Test.YtpaenieafkmmeaaGreatDoorM17
import Derived.Test.YtpaenieafkmmeaaGreatDoorM43
namespace Go.Proofs.YtpaenieafkmmeaaGreatDoor
set_option maxRecDepth 100000
open Go.RowKit

theorem valid19 (r : Int) (w : World) (h : Utf8.valid r = true) : Calls Tryz.prog 83 #[.int .i32 r] w fun e w' => e = .returned (.bool true) ∧ w = w' := by
  have hv : (0 ≤ r ∧ r < 55296) ∨ (57344 ≤ r ∧ r ≤ 1114111) := by unfold Utf8.valid at h; simpa using h
  rcases hv with ⟨h0, h1⟩ | ⟨h0, h1⟩
  · exact valid_any r w h0 h1
  · have a1 : (0 : Int) ≤ r := by omega
    have a2 : ¬ r < 55296 := by omega
    have a3 : 57343 < r := by omega
    clear h h0
    go_enter Tryz.func83, Tryz.ntmps83
    go_wp2
    go_ret
    exact ⟨rfl, rfl⟩
theorem enc19 (r : Int) (h0 : 128 ≤ r) (hv : Utf8.valid r = true) : ∃ (rs : ByteArray) (L : Nat), Utf8.encode r = rs ∧ (L = 1 ∨ L = 2 ∨ L = 3) ∧ ∃ h : rs.size = L + 1, 128 ≤ (rs[L]'(by omega)).toNat := by
  have e : Utf8.encode r = if r.toNat < 2048 then ⟨#[UInt8.ofNat (192 + r.toNat / 64), UInt8.ofNat (128 + r.toNat % 64)]⟩
      else if r.toNat < 65536 then ⟨#[UInt8.ofNat (224 + r.toNat / 4096), UInt8.ofNat (128 + r.toNat / 64 % 64), UInt8.ofNat (128 + r.toNat % 64)]⟩
      else ⟨#[UInt8.ofNat (240 + r.toNat / 262144), UInt8.ofNat (128 + r.toNat / 4096 % 64), UInt8.ofNat (128 + r.toNat / 64 % 64), UInt8.ofNat (128 + r.toNat % 64)]⟩ := by
    unfold Utf8.encode
    simp only [hv, if_true]
    rw [if_neg (by omega)]
  have hl : 128 ≤ (UInt8.ofNat (128 + r.toNat % 64)).toNat := by simp; omega
  by_cases c1 : r.toNat < 2048
  · rw [if_pos c1] at e
    exact ⟨_, 1, e, .inl rfl, rfl, hl⟩
  · rw [if_neg c1] at e
    by_cases c2 : r.toNat < 65536
    · rw [if_pos c2] at e
      exact ⟨_, 2, e, .inr (.inl rfl), rfl, hl⟩
    · rw [if_neg c2] at e
      exact ⟨_, 3, e, .inr (.inr rfl), rfl, hl⟩
theorem no_byte {c : UInt8} : ∀ {l : List UInt8}, (∀ b ∈ l, b ≠ c) → Lib.indexByte l c = -1
  | [], _ => rfl
  | b :: l, h => by
    have ih := no_byte (l := l) fun x hx => h x (by simp [hx])
    unfold Lib.indexByte
    rw [if_neg (by simpa using h b (by simp)), if_pos (by rw [ih]; rfl)]
set_option maxHeartbeats 1000000 in
theorem ixr19 (s : ByteArray) (r : Int) (w : World) (hs : s.size = 10) (ha : ∀ b ∈ s.data.toList, b.toNat < 128) (h0 : 128 ≤ r) (hne : r ≠ 65533) (hv : Utf8.valid r = true) :
    Calls Tryz.prog 51 #[.string s, .int .i32 r] w fun e w' => e = .returned (.int .i64 (-1)) ∧ Gr w w' := by
  have HV := hide (valid19 r w hv)
  obtain ⟨rs, L, hrs, hL, hz, hlast⟩ := enc19 r h0 hv
  have hcv := run_convert_int_string (P := Tryz.prog) w 21 9 .i32 r (by kernel_rfl) Tryz.underlying9
  have hr1 : (0 : Int) ≤ r := by omega
  have hr2 : ¬ r < 128 := by omega
  have hr3 : (r == 65533) = false := by rw [beq_eq_false_iff_ne]; exact hne
  rw [hrs] at hcv
  clear hrs
  have hL10 : L < s.size := by omega
  have hsl : s[L].toNat < 128 := ha _ (by rw [← get_at s hL10]; simp [List.getD, hL10])
  have hbi : ((s[L].toNat : Int) != (rs[L].toNat : Int)) = true := by
    unfold bne
    rw [beq_eq_false_iff_ne.2 (by omega)]
    rfl
  have HI : Hid (∀ W, Calls Tryz.prog 82 #[.string (s.extract (L + 1) s.size), .int .u8 (rs[L].toNat : Int)] W fun e w' => e = .returned (.int .i64 (-1)) ∧ W = w') := fun W => by
    have h := ixb_any (s.extract (L + 1) s.size) (rs[L].toNat : Int) W
    rw [Lib.extract_to_end, Lib.byte_back, no_byte (fun b hb he => by
      have := ha b (List.mem_of_mem_drop hb)
      rw [he] at this
      omega)] at h
    exact h
  rw [hs] at HI
  clear hv h0 hne hlast ha hsl
  rcases hL with rfl | rfl | rfl
  all_goals
    have hz2 := hz
    simp only [Nat.reduceAdd] at hz2 HI
    go_enter Tryz.func51, Tryz.ntmps51
    go_wp2_with (go_at_call 83; refine (unhide HV).mono ?_; rintro e w' ⟨rfl, rfl⟩)
    go_step3
    go_wp2
    go_loopw [9, 10] (fun vi vf wr => vi = .int .i64 ((rs.size : Int) - 1) ∧ vf = .int .i64 0 ∧ wr = w) (fun _ _ _ => 0)
    case atStart => exact ⟨by first | rfl | (rw [hz2]; rfl) | simp [hz2], rfl, rfl⟩
    case round =>
      obtain ⟨hv1, rfl, rfl⟩ := hrel
      rw [hz2] at hv1
      simp at hv1
      subst hv1
      go_wp2
      refine scope_once 0 rfl ?_
      go_wp2
      go_quiet (fail)
      have hg1 := (Gr.refl wr).drewN nq
      generalize wr.drewN nq = wq at *
      go_wp2
      go_quiet ((go_at_call 82; exact Calls.quiet_of_same ((unhide HI _).mono fun _ _ h => ⟨h.1, h.2.symm⟩)))
      go_wp2
      simp only [Exit.jump, Exit.inBlock]
      change Exit.noGoto (Exit.inBlock 0 _) Exit.ret _ _
      simp only [Exit.noGoto, Exit.inBlock, Exit.then]
      go_ret
      exact ⟨rfl, (hg1.drewN _)⟩
set_option maxHeartbeats 1000000 in
theorem ixr19_err (s : ByteArray) (w : World) (hs : s.size = 10) (ha : ∀ b ∈ s.data.toList, b.toNat < 128) : Calls Tryz.prog 51 #[.string s, .int .i32 65533] w fun e w' => e = .returned (.int .i64 (-1)) ∧ Below w.heap.size w w' := by
  have HA := hide ha
  have HS := hide hs
  clear ha hs
  go_enter Tryz.func51, Tryz.ntmps51
  go_wp2
  go_loopw [5, 6] (fun _ _ wr => ∃ p : Nat, p ≤ 10 ∧ wr.heap[w.heap.size]? = some (.stringIter s p) ∧ Below w.heap.size w wr) (fun _ _ wr => 10 - wr.iterPos w.heap.size)
  case atStart => exact ⟨0, by omega, World.iter_heap w s 0, (Below.refl _ _).alloc (Nat.le_refl _) _⟩
  case round =>
    obtain ⟨p, hp10, hit, hb⟩ := hrel
    have hpos0 := iterPos_at hit
    by_cases hp : p < s.size
    · have hx0 : s[p].toNat < 128 := unhide HA _ (by rw [← get_at s hp]; simp [List.getD, hp])
      have hnx : ∀ ty, (Instr.next (.pointer (some ⟨w.heap.size, 0, none⟩)) true ty).run Tryz.prog wr = _ := fun ty => Lib.run_next_ascii_at wr w.heap.size s p ty hit hp hx0
      have hit2 := Lib.iterAt_heap wr w.heap.size s p (p + 1) hit
      have hb2 := Lib.below_iterAt hb (k := w.heap.size) (Nat.le_refl _) s (p + 1)
      have hx : ((s[p].toNat : Int) == 65533) = false := by rw [beq_eq_false_iff_ne]; omega
      have hp2 : p + 1 ≤ 10 := by have := unhide HS; omega
      generalize s[p].toNat = x at *
      obtain ⟨W1, hW1⟩ : ∃ W1, W1 = wr.iterAt w.heap.size s (p + 1) := ⟨_, rfl⟩
      rw [← hW1] at hnx hit2 hb2
      have HIT := hide hit2
      have hpos1 := iterPos_at hit2
      clear hit2 hW1 hit hx0
      go_wp2
      go_roundw
      case rel => exact ⟨p + 1, hp2, unhide HIT, hb2⟩
      case measure => rw [hpos1, hpos0]; omega
    · have hnx : ∀ ty, (Instr.next (.pointer (some ⟨w.heap.size, 0, none⟩)) true ty).run Tryz.prog wr = _ := fun ty => Lib.run_next_end_at wr w.heap.size s p ty hit hp
      clear hit
      go_wp2
      go_ret
      exact ⟨rfl, hb⟩
/-- What stands at a place of a text: a code point, or what tells that none does. -/
theorem dec_valid (s : ByteArray) (p : Nat) : (Utf8.decode s p).1 = 65533 ∨ Utf8.valid ((Utf8.decode s p).1 : Int) = true := by
  unfold Utf8.decode
  simp only
  split
  · rename_i h; right; rw [Nat.add_zero] at h ⊢; unfold Utf8.valid; simp; omega
  · split
    · split
      · right; unfold Utf8.valid; simp; omega
      · left; rfl
    · split
      · split
        · rename_i h; right; exact (by simpa using h : _ ∧ _).2
        · left; rfl
      · split
        · split
          · rename_i h; right; exact (by simpa using h : _ ∧ _).2
          · left; rfl
        · left; rfl
/-- What IndexRune tells of a code point among ASCII. -/
def ixV (l : List UInt8) (x : Nat) : Int := if x < 128 then Lib.indexByte l x.toUInt8 else -1
theorem ixr19_any (s : ByteArray) (x : Nat) (hs : s.size = 10) (ha : ∀ b ∈ s.data.toList, b.toNat < 128) (hx : x = 65533 ∨ Utf8.valid (x : Int) = true) (w : World) :
    Calls Tryz.prog 51 #[.string s, .int .i32 (x : Int)] w fun e w' => e = .returned (.int .i64 (ixV s.data.toList x)) ∧ Below w.heap.size w w' := by
  unfold ixV
  by_cases h : x < 128
  · rw [if_pos h]
    refine (Any.strings_IndexRune_ascii lays19_152 s (x : Int) w (by omega) (by omega)).mono fun e w' ⟨he, hw⟩ => ⟨he, ?_⟩
    rw [hw]
    exact Below.refl _ _
  · rw [if_neg h]
    by_cases h2 : x = 65533
    · subst h2
      exact ixr19_err s w hs ha
    · refine (ixr19 s (x : Int) w hs ha (by omega) (by omega) (hx.resolve_left h2)).mono fun e w' ⟨he, hg⟩ => ⟨he, hg.below⟩
theorem use19 (n : Int) (w : World) : Calls Tryz.prog 52 #[.int .i64 n] w fun e w' => e = .returned (.bool (decide (8 < n))) ∧ w = w' :=
  (Any.strings_shouldUseASCIISet lays19_226 n w).mono fun _ _ ⟨a, b⟩ => ⟨a, b.symm⟩
set_option maxHeartbeats 1000000 in
theorem iany19_short (s chars : ByteArray) (w : World) (h8 : s.size ≤ 8) (hc : chars.size = 10) (ha : ∀ b ∈ chars.data.toList, b.toNat < 128) : Calls Tryz.prog 27 #[.string s, .string chars] w fun e w' => ∃ n, e = .returned (.int .i64 n) ∧ Below w.heap.size w w' := by
  have hemp : chars.toList.isEmpty = false := by
    rw [Lib.toList_data]
    cases h : chars.data.toList with
    | nil => have := Lib.size_eq chars; rw [h, List.length_nil] at this; omega
    | cons _ _ => rfl
  have h8z : decide ((8 : Int) < (s.size : Int)) = false := decide_eq_false (by omega)
  have CU := hide (use19 (s.size : Int))
  rw [h8z] at CU
  have CI := hide (fun x hx W => ixr19_any chars x hc ha hx W)
  have H8 := hide h8
  clear ha h8 h8z
  go_enter Tryz.func27, Tryz.ntmps27
  go_wp2_with (go_at_call 52; refine (unhide CU _).mono ?_; rintro e w' ⟨rfl, rfl⟩)
  go_loopw [9, 10] (fun _ _ wr => ∃ p : Nat, wr.heap[w.heap.size]? = some (.stringIter s p) ∧ Below w.heap.size w wr) (fun _ _ wr => 100 - wr.iterPos w.heap.size)
  case atStart => exact ⟨0, World.iter_heap w s 0, (Below.refl _ _).alloc (Nat.le_refl _) _⟩
  case round =>
    obtain ⟨p, hit, hb⟩ := hrel
    have hpos0 := iterPos_at hit
    by_cases hp : p < s.size
    · have hnx : ∀ ty, (Instr.next (.pointer (some ⟨w.heap.size, 0, none⟩)) true ty).run Tryz.prog wr = _ := fun ty => Lib.run_next_any_at wr w.heap.size s p ty hit hp
      have hwd := dec_pos s p hp
      have hvx := dec_valid s p
      have hit2 := Lib.iterAt_heap wr w.heap.size s p (p + (Utf8.decode s p).2) hit
      have hb2 := Lib.below_iterAt hb (k := w.heap.size) (Nat.le_refl _) s (p + (Utf8.decode s p).2)
      have hp8 : p < 8 := Nat.lt_of_lt_of_le hp (unhide H8)
      generalize (Utf8.decode s p).1 = x at *
      generalize (Utf8.decode s p).2 = d at *
      obtain ⟨W1, hW1⟩ : ∃ W1, W1 = wr.iterAt w.heap.size s (p + d) := ⟨_, rfl⟩
      rw [← hW1] at hnx hit2 hb2
      have HIT := hide hit2
      have CX := hide (unhide CI x hvx W1)
      clear hit2 hW1 hit hvx CI
      generalize ixV chars.data.toList x = n at *
      by_cases hn : 0 ≤ n
      · go_wp2_with (go_at_call 51; refine (unhide CX).mono ?_; rintro e w2 ⟨rfl, b2⟩)
        go_ret
        exact ⟨_, rfl, hb2.trans (b2.mono hb2.size)⟩
      · go_wp2_with (go_at_call 51; refine (unhide CX).mono ?_; rintro e w2 ⟨rfl, b2⟩; have hit3 := (b2.block _ (Array.getElem?_eq_some_iff.1 (unhide HIT)).1).trans (unhide HIT); have HIT3 := hide hit3; have hpos1 := iterPos_at hit3; clear hit3)
        go_roundw
        case rel => exact ⟨p + d, unhide HIT3, hb2.trans (b2.mono hb2.size)⟩
        case measure => rw [hpos1, hpos0]; omega
    · have hnx : ∀ ty, (Instr.next (.pointer (some ⟨w.heap.size, 0, none⟩)) true ty).run Tryz.prog wr = _ := fun ty => Lib.run_next_end_at wr w.heap.size s p ty hit hp
      clear hit
      go_wp2
      go_ret
      exact ⟨_, rfl, hb⟩
theorem dig19_mem : ∀ b ∈ dig19.data.toList, b.toNat < 128 := by decide
theorem iany19 (s : ByteArray) (w : World) (hs : s.size ≤ 400) : Calls Tryz.prog 27 #[.string s, .string dig19] w fun e w' => ∃ n, e = .returned (.int .i64 n) ∧ Below w.heap.size w w' := by
  by_cases h : s.size ≤ 8
  · exact iany19_short s dig19 w h rfl dig19_mem
  · exact iany19_long s w (by omega) (by omega)
set_option maxHeartbeats 1000000 in
theorem cany19_some (s : ByteArray) (w : World) (hs : s.size ≤ 400) : Calls Tryz.prog 16 #[.string s, .string dig19] w fun e w' => ∃ b, e = .returned (.bool b) ∧ Below w.heap.size w w' := by
  have C := hide (iany19 s w hs)
  generalize dig19 = t at *
  go_enter Tryz.func16, Tryz.ntmps16
  go_wp2_with (go_at_call 27; refine (unhide C).mono ?_; rintro e w2 ⟨n, rfl, b2⟩)
  go_ret
  first | exact ⟨_, rfl, b2⟩ | (cases hn : decide (n ≥ 0) <;> simp_all)
end Go.Proofs.YtpaenieafkmmeaaGreatDoor
