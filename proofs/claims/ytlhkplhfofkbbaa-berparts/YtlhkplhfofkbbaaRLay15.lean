/- The document's lay and Encode of layer 15. (By gen_lay.py.) -/
import Derived.Test.YtlhkplhfofkbbaaLay15
namespace Go.Proofs.Ytlhkplhfofkbbaa
open Go.RowKit

theorem layE_made (c n : Int) (s : ByteArray) (els : List El) : layE (.mk c true n s els) = hd (64 * c + n + 32) (layE.L els).length ++ layE.L els := by simp [layE, tagE]
theorem layE_plain (c n : Int) (s : ByteArray) (els : List El) : layE (.mk c false n s els) = hd (64 * c + n) s.size ++ nums s := by simp [layE, tagE]
set_option maxHeartbeats 3200000 in
theorem rlay_any (e : El) : ∀ (v : Value) (w : World), ElV w e v → fineE e = true → sizeE e ≤ 4000 → Calls Try.prog 30 #[v] w fun r w' => r = .returned (.string (strOfNums (layE e))) ∧ Gr w w' := by
  induction e using El.ind with
  | h c m n s els ih =>
    intro v w hV hf hs
    simp only [ElV] at hV
    obtain ⟨ad, cap, rfl, hn, hc⟩ := hV
    obtain ⟨f0, c0, c1, m0, m1, fm, fn⟩ := fine_parts hf
    simp only [sizeE] at hs
    have h1 := hdr_le hs
    have h2 := sizeL_sum els s.size h1.1
    have w1 : IntKind.i64.wrap (64 * c) = 64 * c := wrap_in (by omega) (by omega)
    have w2 : IntKind.i64.wrap (64 * c + n) = 64 * c + n := wrap_in (by omega) (by omega)
    cases m
    · have HE := hide (layE_plain c n s els)
      have hss : s.size ≤ 4000 := by omega
      have HSB := hide (strOfNums_nums s)
      clear ih hc f0 fm fn hf hs h1 h2 hn
      go_enter Try.func30, Try.ntmps30
      have t1 : IntKind.u8.wrap (64 * c + n) = 64 * c + n := by simp [IntKind.wrap, IntKind.bits, IntKind.signed] <;> omega
      by_cases n1 : s.size < 128
      · have z1 : ((s.size : Nat) : Int) < 128 := by omega
        have t2 : IntKind.u8.wrap ((s.size : Nat) : Int) = ((s.size : Nat) : Int) := by simp [IntKind.wrap, IntKind.bits, IntKind.signed] <;> omega
        have hc : (convert 52 9 (.slice (some ⟨w.heap.size + 1, 0, none⟩) 2 2)).run Try.prog ((w.alloc (.cells #[.int .i64 c, .bool false, .int .i64 n, .string s, .slice ad els.length cap] 26)).alloc (.cells #[.int .u8 (64 * c + n), .int .u8 ((s.size : Nat) : Int)] 5)) = .ok (.string (strOfNums [(64 * c + n), ((s.size : Nat) : Int)])) ((w.alloc (.cells #[.int .i64 c, .bool false, .int .i64 n, .string s, .slice ad els.length cap] 26)).alloc (.cells #[.int .u8 (64 * c + n), .int .u8 ((s.size : Nat) : Int)] 5)) := conv_at (w.alloc (.cells #[.int .i64 c, .bool false, .int .i64 n, .string s, .slice ad els.length cap] 26)) [(64 * c + n), ((s.size : Nat) : Int)] _ 2 rfl rfl (w.heap.size + 1) (by simp)
        have hsz : (strOfNums [(64 * c + n), ((s.size : Nat) : Int)]).size + (s).size ≤ 9223372036854775807 := by rw [strOfNums_size]; simp only [List.length_cons, List.length_nil]; omega
        go_wp2
        go_ret
        refine ⟨ret_str ?_, (Gr.one w _).alloc _⟩
        rw [unhide HE, ← strOfNums_app, unhide HSB]
        refine congrArg (fun l => strOfNums l ++ s) ?_
        unfold hd
        rw [if_pos n1]
      · have z1 : ¬ ((s.size : Nat) : Int) < 128 := by omega
        by_cases n2 : s.size < 256
        · have z2 : ((s.size : Nat) : Int) < 256 := by omega
          have t2 : IntKind.u8.wrap ((s.size : Nat) : Int) = ((s.size : Nat) : Int) := by simp [IntKind.wrap, IntKind.bits, IntKind.signed] <;> omega
          have hc : (convert 52 9 (.slice (some ⟨w.heap.size + 1, 0, none⟩) 3 3)).run Try.prog ((w.alloc (.cells #[.int .i64 c, .bool false, .int .i64 n, .string s, .slice ad els.length cap] 26)).alloc (.cells #[.int .u8 (64 * c + n), .int .u8 129, .int .u8 ((s.size : Nat) : Int)] 5)) = .ok (.string (strOfNums [(64 * c + n), 129, ((s.size : Nat) : Int)])) ((w.alloc (.cells #[.int .i64 c, .bool false, .int .i64 n, .string s, .slice ad els.length cap] 26)).alloc (.cells #[.int .u8 (64 * c + n), .int .u8 129, .int .u8 ((s.size : Nat) : Int)] 5)) := conv_at (w.alloc (.cells #[.int .i64 c, .bool false, .int .i64 n, .string s, .slice ad els.length cap] 26)) [(64 * c + n), 129, ((s.size : Nat) : Int)] _ 3 rfl rfl (w.heap.size + 1) (by simp)
          have hsz : (strOfNums [(64 * c + n), 129, ((s.size : Nat) : Int)]).size + (s).size ≤ 9223372036854775807 := by rw [strOfNums_size]; simp only [List.length_cons, List.length_nil]; omega
          go_wp2
          go_ret
          refine ⟨ret_str ?_, (Gr.one w _).alloc _⟩
          rw [unhide HE, ← strOfNums_app, unhide HSB]
          refine congrArg (fun l => strOfNums l ++ s) ?_
          unfold hd
          rw [if_neg n1, if_pos n2]
        · have z2 : ¬ ((s.size : Nat) : Int) < 256 := by omega
          have t2 : IntKind.i64.wrap (((s.size : Nat) : Int) / 256) = ((s.size : Nat) : Int) / 256 := wrap_in (by omega) (by omega)
          have t3 : IntKind.u8.wrap (((s.size : Nat) : Int) / 256) = ((s.size : Nat) : Int) / 256 := by simp [IntKind.wrap, IntKind.bits, IntKind.signed] <;> omega
          have t4 : IntKind.u8.wrap (((s.size : Nat) : Int) % 256) = ((s.size : Nat) : Int) % 256 := by simp [IntKind.wrap, IntKind.bits, IntKind.signed] <;> omega
          have t5 : (((s.size : Nat) : Int)).tmod 256 = ((s.size : Nat) : Int) % 256 := Int.tmod_eq_emod_of_nonneg (by omega)
          have hc : (convert 52 9 (.slice (some ⟨w.heap.size + 1, 0, none⟩) 4 4)).run Try.prog ((w.alloc (.cells #[.int .i64 c, .bool false, .int .i64 n, .string s, .slice ad els.length cap] 26)).alloc (.cells #[.int .u8 (64 * c + n), .int .u8 130, .int .u8 (((s.size : Nat) : Int) / 256), .int .u8 (((s.size : Nat) : Int) % 256)] 5)) = .ok (.string (strOfNums [(64 * c + n), 130, (((s.size : Nat) : Int) / 256), (((s.size : Nat) : Int) % 256)])) ((w.alloc (.cells #[.int .i64 c, .bool false, .int .i64 n, .string s, .slice ad els.length cap] 26)).alloc (.cells #[.int .u8 (64 * c + n), .int .u8 130, .int .u8 (((s.size : Nat) : Int) / 256), .int .u8 (((s.size : Nat) : Int) % 256)] 5)) := conv_at (w.alloc (.cells #[.int .i64 c, .bool false, .int .i64 n, .string s, .slice ad els.length cap] 26)) [(64 * c + n), 130, (((s.size : Nat) : Int) / 256), (((s.size : Nat) : Int) % 256)] _ 4 rfl rfl (w.heap.size + 1) (by simp)
          have hsz : (strOfNums [(64 * c + n), 130, (((s.size : Nat) : Int) / 256), (((s.size : Nat) : Int) % 256)]).size + (s).size ≤ 9223372036854775807 := by rw [strOfNums_size]; simp only [List.length_cons, List.length_nil]; omega
          go_wp2
          go_ret
          refine ⟨ret_str ?_, (Gr.one w _).alloc _⟩
          rw [unhide HE, ← strOfNums_app, unhide HSB]
          refine congrArg (fun l => strOfNums l ++ s) ?_
          unfold hd
          rw [if_neg n1, if_neg n2]
          simp
    · have HE := hide (layE_made c n s els)
      have w3 : IntKind.i64.wrap (64 * c + n + 32) = 64 * c + n + 32 := wrap_in (by omega) (by omega)
      have HIH := hide ih
      have HL := hide hc
      have hlen : ∀ e, e ∈ els → fineE e = true ∧ sizeE e ≤ 4000 := fun e he => ⟨fineL_mem els f0 e he, by have := sumS_mem els e he; omega⟩
      have HLN := hide hlen
      have hll : (layE.L els).length = sumS els := layL_len_of els fun e he => lay_len e (hlen e he).1 (hlen e he).2
      have hl4 : (layE.L els).length ≤ 4000 := by omega
      have HTK : Hid (∀ i, (layE.L (els.take i)).length ≤ 4000) := fun i => by
        have e1 : layE.L els = layE.L (els.take i) ++ layE.L (els.drop i) := by rw [← layL_app, List.take_append_drop]
        have e2 := congrArg List.length e1
        rw [List.length_append] at e2
        omega
      clear ih hc f0 fm fn hf hs h1 h2 hlen hll
      go_enter Try.func30, Try.ntmps30
      go_wp2
      go_loopw [3, 5] (fun vb vi wr => ∃ i : Nat, i ≤ els.length ∧ vi = .int .i64 (i : Int) ∧ vb = .string (strOfNums (layE.L (els.take i))) ∧ Gr (w.alloc (.cells #[.int .i64 c, .bool true, .int .i64 n, .string s, .slice ad els.length cap] 26)) wr) (fun _ i _ => els.length - (intOf i).toNat)
      case atStart => exact ⟨0, Nat.zero_le _, rfl, (by simp [layE.L]; rfl), Gr.refl _⟩
      case round =>
        obtain ⟨i, hi, rfl, rfl, hnx⟩ := hrel
        obtain ⟨b0, b1, b2, b3, b4⟩ := box5 hnx
        by_cases hlt : i < els.length
        · have hzl : (i : Int) < (els.length : Int) := by omega
          have hz0 : (0 : Int) ≤ (i : Int) := by omega
          have gw := (Gr.one w _).trans hnx
          obtain ⟨g, off, rfl, hl⟩ := (unhide HL).resolve_left (by omega)
          obtain ⟨a0, a1, a2, a3, a4, q0, q1, q2, q3, q4, hv⟩ := hl.get i hlt
          have k0 := gw.cell q0
          have k1 := gw.cell q1
          have k2 := gw.cell q2
          have k3 := gw.cell q3
          have k4 := gw.cell q4
          obtain ⟨f1, f2⟩ := unhide HLN _ (getD_mem els i hlt)
          have CI := unhide HIH _ (getD_mem els i hlt) _ wr (hv.grow gw.below) f1 f2
          have HS := hide (layL_take els i hlt)
          have y1 := unhide HTK i
          have y2 := lay_len _ f1 f2
          have hsz : (strOfNums (layE.L (els.take i))).size + (strOfNums (layE (els.getD i el0))).size ≤ 9223372036854775807 := by rw [strOfNums_size, strOfNums_size]; omega
          clear q0 q1 q2 q3 q4 hv hl f1 f2 y1 y2
          generalize layE (els.getD i el0) = X at *
          go_wp2_with (go_at_call 30; refine CI.mono ?_; rintro e w2 ⟨rfl, g2⟩)
          go_roundw
          case rel => exact ⟨i + 1, by omega, by go_num, (by rw [unhide HS, strOfNums_app]), hnx.trans g2⟩
          case measure => simp [intOf]; omega
        · have hzl : ¬ (i : Int) < (els.length : Int) := by omega
          have gw := (Gr.one w _).trans hnx
          have ei : els.take i = els := List.take_of_length_le (by omega)
          rw [ei]
          have hsb := strOfNums_size (layE.L els)
          rw [← hsb] at hl4
          have HSZ := hide hsb
          clear HIH HL HLN HTK hsb ei
          have t1 : IntKind.u8.wrap (64 * c + n + 32) = 64 * c + n + 32 := by simp [IntKind.wrap, IntKind.bits, IntKind.signed] <;> omega
          by_cases n1 : (strOfNums (layE.L els)).size < 128
          · have z1 : (((strOfNums (layE.L els)).size : Nat) : Int) < 128 := by omega
            have t2 : IntKind.u8.wrap (((strOfNums (layE.L els)).size : Nat) : Int) = (((strOfNums (layE.L els)).size : Nat) : Int) := by simp [IntKind.wrap, IntKind.bits, IntKind.signed] <;> omega
            have hc : ∀ W : World, (convert 52 9 (.slice (some ⟨W.heap.size, 0, none⟩) 2 2)).run Try.prog (W.alloc (.cells #[.int .u8 (64 * c + n + 32), .int .u8 (((strOfNums (layE.L els)).size : Nat) : Int)] 5)) = .ok (.string (strOfNums [(64 * c + n + 32), (((strOfNums (layE.L els)).size : Nat) : Int)])) (W.alloc (.cells #[.int .u8 (64 * c + n + 32), .int .u8 (((strOfNums (layE.L els)).size : Nat) : Int)] 5)) := fun W => conv_bytes W [(64 * c + n + 32), (((strOfNums (layE.L els)).size : Nat) : Int)] _ 2 rfl rfl
            have hsz : (strOfNums [(64 * c + n + 32), (((strOfNums (layE.L els)).size : Nat) : Int)]).size + (strOfNums (layE.L els)).size ≤ 9223372036854775807 := by rw [strOfNums_size]; simp only [List.length_cons, List.length_nil]; omega
            go_wp2
            go_ret
            refine ⟨ret_str ?_, gw.alloc _⟩
            rw [unhide HE, strOfNums_app, ← unhide HSZ]
            refine congrArg strOfNums (congrArg (· ++ layE.L els) ?_)
            unfold hd
            rw [if_pos n1]
          · have z1 : ¬ (((strOfNums (layE.L els)).size : Nat) : Int) < 128 := by omega
            by_cases n2 : (strOfNums (layE.L els)).size < 256
            · have z2 : (((strOfNums (layE.L els)).size : Nat) : Int) < 256 := by omega
              have t2 : IntKind.u8.wrap (((strOfNums (layE.L els)).size : Nat) : Int) = (((strOfNums (layE.L els)).size : Nat) : Int) := by simp [IntKind.wrap, IntKind.bits, IntKind.signed] <;> omega
              have hc : ∀ W : World, (convert 52 9 (.slice (some ⟨W.heap.size, 0, none⟩) 3 3)).run Try.prog (W.alloc (.cells #[.int .u8 (64 * c + n + 32), .int .u8 129, .int .u8 (((strOfNums (layE.L els)).size : Nat) : Int)] 5)) = .ok (.string (strOfNums [(64 * c + n + 32), 129, (((strOfNums (layE.L els)).size : Nat) : Int)])) (W.alloc (.cells #[.int .u8 (64 * c + n + 32), .int .u8 129, .int .u8 (((strOfNums (layE.L els)).size : Nat) : Int)] 5)) := fun W => conv_bytes W [(64 * c + n + 32), 129, (((strOfNums (layE.L els)).size : Nat) : Int)] _ 3 rfl rfl
              have hsz : (strOfNums [(64 * c + n + 32), 129, (((strOfNums (layE.L els)).size : Nat) : Int)]).size + (strOfNums (layE.L els)).size ≤ 9223372036854775807 := by rw [strOfNums_size]; simp only [List.length_cons, List.length_nil]; omega
              go_wp2
              go_ret
              refine ⟨ret_str ?_, gw.alloc _⟩
              rw [unhide HE, strOfNums_app, ← unhide HSZ]
              refine congrArg strOfNums (congrArg (· ++ layE.L els) ?_)
              unfold hd
              rw [if_neg n1, if_pos n2]
            · have z2 : ¬ (((strOfNums (layE.L els)).size : Nat) : Int) < 256 := by omega
              have t2 : IntKind.i64.wrap ((((strOfNums (layE.L els)).size : Nat) : Int) / 256) = (((strOfNums (layE.L els)).size : Nat) : Int) / 256 := wrap_in (by omega) (by omega)
              have t3 : IntKind.u8.wrap ((((strOfNums (layE.L els)).size : Nat) : Int) / 256) = (((strOfNums (layE.L els)).size : Nat) : Int) / 256 := by simp [IntKind.wrap, IntKind.bits, IntKind.signed] <;> omega
              have t4 : IntKind.u8.wrap ((((strOfNums (layE.L els)).size : Nat) : Int) % 256) = (((strOfNums (layE.L els)).size : Nat) : Int) % 256 := by simp [IntKind.wrap, IntKind.bits, IntKind.signed] <;> omega
              have t5 : ((((strOfNums (layE.L els)).size : Nat) : Int)).tmod 256 = (((strOfNums (layE.L els)).size : Nat) : Int) % 256 := Int.tmod_eq_emod_of_nonneg (by omega)
              have hc : ∀ W : World, (convert 52 9 (.slice (some ⟨W.heap.size, 0, none⟩) 4 4)).run Try.prog (W.alloc (.cells #[.int .u8 (64 * c + n + 32), .int .u8 130, .int .u8 ((((strOfNums (layE.L els)).size : Nat) : Int) / 256), .int .u8 ((((strOfNums (layE.L els)).size : Nat) : Int) % 256)] 5)) = .ok (.string (strOfNums [(64 * c + n + 32), 130, ((((strOfNums (layE.L els)).size : Nat) : Int) / 256), ((((strOfNums (layE.L els)).size : Nat) : Int) % 256)])) (W.alloc (.cells #[.int .u8 (64 * c + n + 32), .int .u8 130, .int .u8 ((((strOfNums (layE.L els)).size : Nat) : Int) / 256), .int .u8 ((((strOfNums (layE.L els)).size : Nat) : Int) % 256)] 5)) := fun W => conv_bytes W [(64 * c + n + 32), 130, ((((strOfNums (layE.L els)).size : Nat) : Int) / 256), ((((strOfNums (layE.L els)).size : Nat) : Int) % 256)] _ 4 rfl rfl
              have hsz : (strOfNums [(64 * c + n + 32), 130, ((((strOfNums (layE.L els)).size : Nat) : Int) / 256), ((((strOfNums (layE.L els)).size : Nat) : Int) % 256)]).size + (strOfNums (layE.L els)).size ≤ 9223372036854775807 := by rw [strOfNums_size]; simp only [List.length_cons, List.length_nil]; omega
              go_wp2
              go_ret
              refine ⟨ret_str ?_, gw.alloc _⟩
              rw [unhide HE, strOfNums_app, ← unhide HSZ]
              refine congrArg strOfNums (congrArg (· ++ layE.L els) ?_)
              unfold hd
              rw [if_neg n1, if_neg n2]
              simp
end Go.Proofs.Ytlhkplhfofkbbaa
