/- Contract of the program's Decode. -/
import Derived.Test.YtegpdppfdgcljaaUDecU
import Derived.Test.YtegpdppfdgcljaaURefDec
namespace Go.Proofs.Ytegpdppfdgcljaa
open Go.RowKit

/-- What the label's rest needs: a frame of the right size, with nothing deferred; nothing old has turned. -/
def AtNone (w : World) (a : Act) (w' : World) : Prop := (∃ t : Array Value, t.size = 67 ∧ a = { tmps := t, defers := [] }) ∧ Below w.heap.size w w'

/-- The bytes of a text, as a new slice. -/
theorem bytes_new (t : ByteArray) (w : World) : ∃ (w1 : World) (cap1 : Nat), (convert 9 68 (.string t)).run Try.prog w = .ok (.slice (some ⟨w.heap.size, 0, none⟩) t.size cap1) w1 ∧
    (∀ j, j < t.size → w1.cell? ⟨w.heap.size, j, none⟩ = some (.int .u8 ((nums t).getD j 0))) ∧ Below w.heap.size w w1 := by
  refine ⟨_, _, run_bytes_of_string w 9 68 5 t Try.underlying9 Try.underlying68 Try.underlying5, ?_, ((Below.refl _ _).drew).alloc (Nat.le_refl _) _⟩
  intro j hj
  have := World.cell?_alloc_mark w.drew (bytesRow t (grownCap w t.size 0 5)) 5 ((bytesRow t (grownCap w t.size 0 5)).size, (bytesRow t (grownCap w t.size 0 5)).size + 1) j
  refine this.trans ?_
  rw [bytesRow_at t _ j (by simpa using hj), nums_at t j hj]
  rfl

theorem gF_bound2 (l : List Int) (base : Int) (h0 : 0 ≤ base) (h1 : base < 256) (hb : ∀ x ∈ l, 0 ≤ x ∧ x < 256) :
    ∀ k, k ≤ 2 → gF l base k < 1048576 := by
  intro k hk
  have b1 := getD_bound l hb 1
  have b2 := getD_bound l hb 2
  match k, hk with
  | 0, _ => simp only [gF]; omega
  | 1, _ => simp only [gF]; omega
  | 2, _ => simp only [gF]; omega

set_option maxRecDepth 100000 in
set_option maxHeartbeats 800000 in
theorem decode_in (s : ByteArray) (k : Nat) (w : World) (R T E : Int) (hs : s.size ≤ 140737488351232) (hk : k < s.size) (hR : R = decR (from_ s k)) (hT : T = if decN (from_ s k) = 0 then 0 else k + decN (from_ s k)) (hE : E = if decN (from_ s k) = 0 then 10 else 0) :
    Calls Try.prog 29 #[.string s, .int .i64 (k : Int)] w fun e w' => e = .returned (.tuple #[.int .i32 R, .int .i64 T, .int .i64 E]) ∧ Below w.heap.size w w' := by
  have HR := hide hR
  have HT := hide hT
  have HE := hide hE
  clear hR hT hE
  have hki : (k : Int) < (s.size : Int) := by omega
  have hk0 : ¬ (k : Int) < 0 := by omega
  have hL0 : (from_ s k).getD 0 0 = (s[k].toNat : Int) := by rw [← nums_at s k hk]; unfold from_; simp [List.getD]
  have hb0 := getD_bound _ (from_bound s k) 0
  rw [hL0] at hb0
  have H23 : Hid (∀ w, Calls Try.prog 43 #[.int .u8 (s[k].toNat : Int)] w fun e w' => e = .returned (.tuple #[.int .i32 (headR (s[k].toNat : Int)), .int .i64 (headN (s[k].toNat : Int))]) ∧ w = w') := fun w =>
    (head_any _ w hb0.1 hb0.2).mono fun e w' ⟨h1, h2⟩ => ⟨h1, h2.symm⟩
  have hN := headN_cases (s[k].toNat : Int)
  have HU := hide (u_none (from_ s k))
  have HC := hide (u_cont (from_ s k))
  have HN := hide (u_end (from_ s k) (from_bound s k))
  rw [hL0, from_length] at HU
  rw [hL0] at HC
  rw [hL0, from_length] at HN
  have hg := gF_bound (from_ s k) (headR (s[k].toNat : Int)) (by omega) (by omega) (from_bound s k)
  have HG := hide hg
  have HG2 := hide (gF_bound2 (from_ s k) (headR (s[k].toNat : Int)) (by omega) (by omega) (from_bound s k))
  have hn0 : 0 ≤ headN (s[k].toNat : Int) ∧ headN (s[k].toNat : Int) ≤ 4 := by omega
  obtain ⟨hn0, hn4⟩ := hn0
  clear hL0 hb0 hN hg
  generalize headN (s[k].toNat : Int) = N at *
  generalize headR (s[k].toNat : Int) = r0 at *
  go_enter Try.func29, Try.ntmps29
  go_wp2
  refine wp_scope_jumps 0 (fun a' w' => AtNone w a' w' ∧ decN (from_ s k) = 0 ∧ decR (from_ s k) = 0) (fun _ _ => 0) rfl ?_ ?_
  · by_cases c1 : N = 0
    · have D := hide (unhide HU (Or.inl c1) (by omega))
      subst c1
      go_wp2_with (go_at_call 43; refine (unhide H23 _).mono ?_; rintro e w' ⟨rfl, rfl⟩)
      go_step3
      exact ⟨rfl, ⟨⟨_, rfl, rfl⟩, Below.refl _ _⟩, unhide D⟩
    have c1' : (N == 0) = false := by simp; omega
    by_cases c2 : (s.size : Int) - k < N
    · have D := hide (unhide HU (Or.inr (by omega)) (by omega))
      go_wp2_with (go_at_call 43; refine (unhide H23 _).mono ?_; rintro e w' ⟨rfl, rfl⟩)
      go_step3
      exact ⟨rfl, ⟨⟨_, rfl, rfl⟩, Below.refl _ _⟩, unhide D⟩
    obtain ⟨m, rfl⟩ : ∃ m : Nat, N = (m : Int) + 1 := ⟨(N - 1).toNat, by omega⟩
    have hm3 : m ≤ 3 := by omega
    have hml : m + 1 ≤ s.size - k := by omega
    have hkd : decide ((k : Int) < 0) = false := by simp
    have hsd : decide ((s.size : Int) - (k : Int) < (m : Int) + 1) = false := by simp; omega
    have ht : nums (s.extract (k + 1) (k + (m + 1))) = ((nums s).drop (k + 1)).take m := by rw [nums_extract, show k + (m + 1) - (k + 1) = m by omega]
    have hts : (s.extract (k + 1) (k + (m + 1))).size = m := by rw [← nums_length, ht]; simp [nums_length]; omega
    obtain ⟨w1, cap1, hcv, hce, hb1⟩ := bytes_new (s.extract (k + 1) (k + (m + 1))) w
    rw [hts] at hcv hce
    have hce' : ∀ j, j < m → w1.cell? ⟨w.heap.size, j, none⟩ = some (.int .u8 ((from_ s k).getD (j + 1) 0)) := fun j hj => by
      rw [hce j hj, ht]
      congr 2
      unfold from_
      simp [List.getD, hj]
      congr 2
      omega
    have HCE := hide hce'
    have BB := hide (getD_bound (from_ s k) (from_bound s k))
    clear hce hce' ht hts
    go_wp2_with (first | (go_at_call 43; refine (unhide H23 _).mono ?_; rintro e w' ⟨rfl, rfl⟩) | fail)
    go_loop [7, 45] (fun r i => ∃ j : Nat, j ≤ m ∧ i = .int .i64 j ∧ r = .int .i32 (gF (from_ s k) r0 j) ∧ ∀ q, 1 ≤ q → q ≤ j → cont ((from_ s k).getD q 0) = true) (fun _ i => m - (intOf i).toNat)
    case atStart => exact ⟨0, Nat.zero_le _, rfl, rfl, fun q h1 h2 => by omega⟩
    case round =>
      obtain ⟨j, hj, rfl, rfl, hq⟩ := hrel
      have HQ := hide hq
      clear hq
      have hgj := unhide HG j (by omega)
      obtain ⟨hg0, hg1⟩ := hgj
      by_cases hlt : j < m
      · have hlti : (j : Int) < (m : Int) := by omega
        have hc := unhide HCE j hlt
        obtain ⟨bb0, bb1⟩ := unhide BB (j + 1)
        have HS : Hid (gF (from_ s k) r0 (j + 1) = 64 * gF (from_ s k) r0 j + (from_ s k).getD (j + 1) 0 % 64) := rfl
        have HC1 := hide (unhide HC (j + 1) (by omega) (by omega))
        have HQ1 : Hid (cont ((from_ s k).getD (j + 1) 0) = true → ∀ q, 1 ≤ q → q ≤ j + 1 → cont ((from_ s k).getD q 0) = true) := fun h q h1 h2 => by
          by_cases hqj : q ≤ j
          · exact unhide HQ q h1 hqj
          · rw [show q = j + 1 by omega]; exact h
        generalize (from_ s k).getD (j + 1) 0 = b at *
        have e1 := u8_andNot63 b bb0 bb1
        have e2 := u8_and63 b bb0 bb1
        cases hcb : cont b
        · have D := hide (unhide HC1 hcb)
          have hne : (b / 64 * 64 != 128) = true := by unfold cont at hcb; rw [decide_eq_false_iff_not] at hcb; simp; omega
          clear hcb
          go_wp2
          go_step3
          exact ⟨rfl, ⟨⟨_, rfl, rfl⟩, hb1⟩, unhide D⟩
        · have hne : (b / 64 * 64 != 128) = false := by unfold cont at hcb; rw [decide_eq_true_iff] at hcb; simp; omega
          have HCB := hide hcb
          have hg2 := unhide HG2 j (by omega)
          have e3 := i32_or64 (gF (from_ s k) r0 j) (b % 64) hg0 (by omega) (by omega) (by omega)
          clear hcb
          go_wp2
          go_round
          case rel => exact ⟨j + 1, by omega, by go_num, by rw [unhide HS], unhide HQ1 (unhide HCB)⟩
          case measure => simp [intOf]; omega
      · have hlti : ¬ (j : Int) < (m : Int) := by omega
        have hjm : j = m := by omega
        subst hjm
        obtain ⟨HY, HNo⟩ := unhide HN j rfl hml (unhide HQ)
        have H13 : Hid (∀ w, Calls Try.prog 30 #[.int .i32 (gF (from_ s k) r0 j)] w fun e w' => e = .returned (.int .i64 (lenOf (gF (from_ s k) r0 j))) ∧ w = w') := fun w => (length_any _ w).mono fun e w' ⟨h1, h2⟩ => ⟨h1, h2.symm⟩
        by_cases hlen : lenOf (gF (from_ s k) r0 j) = (j : Int) + 1
        · have D := hide (HY hlen)
          rw [hlen] at H13
          clear HY HNo hlen
          go_wp2_with (go_at_call 30; refine (unhide H13 _).mono ?_; rintro e w' ⟨rfl, rfl⟩)
          simp only [Exit.jump]
          go_ret3
          obtain ⟨d1, d2⟩ := unhide D
          refine ⟨ret_rte ?_ ?_ ?_, hb1⟩
          · rw [unhide HR, d2]
          · rw [unhide HT, d1, if_neg (by omega)]
          · rw [unhide HE, d1, if_neg (by omega)]
        · have D := hide (HNo hlen)
          have hle : (lenOf (gF (from_ s k) r0 j) != (j : Int) + 1) = true := by simp [hlen]
          clear HY HNo hlen
          generalize lenOf (gF (from_ s k) r0 j) = q at *
          go_wp2_with (go_at_call 30; refine (unhide H13 _).mono ?_; rintro e w' ⟨rfl, rfl⟩)
          go_step3
          exact ⟨rfl, ⟨⟨_, rfl, rfl⟩, hb1⟩, unhide D⟩
  · rintro a' w' ⟨⟨⟨t, ht, rfl⟩, hb⟩, d1, d2⟩
    go_wp2
    simp only [Exit.jump]
    go_ret3
    refine ⟨?_, hb⟩
    have hr : R = 0 := by rw [unhide HR, d2]
    have hT : T = 0 := by rw [unhide HT, d1]; rfl
    have hE : E = 10 := by rw [unhide HE, d1]; rfl
    simp [hr, hT, hE, Array.getD, ht]
end Go.Proofs.Ytegpdppfdgcljaa
