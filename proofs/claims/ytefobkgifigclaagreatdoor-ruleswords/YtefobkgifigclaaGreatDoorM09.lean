/- Contract of the document's Decode. -/
import Derived.Test.YtefobkgifigclaaGreatDoorM08
import Derived.Test.YtefobkgifigclaaGreatDoorM07
import Derived.Deep.RegionHeld3
import Derived.Deep.QuietTactic
import Derived.BigQuiet
import Derived.Test.YtefobkgifigclaaGreatDoorM01
import Derived.Deep.AppendLies
namespace Go.Proofs.YtefobkgifigclaaGreatDoor
set_option maxRecDepth 100000
open Go.RowKit

theorem ret_rte {a b c a' b' c' : Int} {k : IntKind} (h : a = a') (h' : b = b') (h'' : c = c') : Ending.returned (.tuple #[.int .i32 a, .int .i64 b, .int k c]) = .returned (.tuple #[.int .i32 a', .int .i64 b', .int k c']) := by rw [h, h', h'']

theorem guess_bound (L : List Int) (hb : ∀ x ∈ L, 0 ≤ x ∧ x < 256) (n : Nat) (h4 : n ≤ 4) : 0 ≤ guessOf (L.take n) ∧ guessOf (L.take n) < 67108864 := by
  have hb' : ∀ x ∈ L.take n, 0 ≤ x ∧ x < 256 := fun x hx => hb x (List.mem_of_mem_take hx)
  have h0 := getD_bound (L.take n) hb' 0
  have hq := gBase_bound (L.take n).length _ h0.1 h0.2
  unfold guessOf
  exact gF_bound (L.take n) _ hq.1 hq.2 hb' _ (by simp; omega)

end Go.Proofs.YtefobkgifigclaaGreatDoor
/- Contract of the program's Decode. -/
namespace Go.Proofs.YtefobkgifigclaaGreatDoor
set_option maxRecDepth 100000
open Go.RowKit

/-- What the label's rest needs: a frame of the right size, with nothing deferred; nothing old has turned. -/
def AtNone (w : World) (a : Act) (w' : World) : Prop := (∃ t : Array Value, t.size = 67 ∧ a = { tmps := t, defers := [] }) ∧ Below w.heap.size w w'

/-- The bytes of a text, as a new slice. -/
theorem bytes_new (t : ByteArray) (w : World) : ∃ (w1 : World) (cap1 : Nat), (convert 9 84 (.string t)).run Tryz.prog w = .ok (.slice (some ⟨w.heap.size, 0, none⟩) t.size cap1) w1 ∧
    (∀ j, j < t.size → w1.cell? ⟨w.heap.size, j, none⟩ = some (.int .u8 ((nums t).getD j 0))) ∧ Below w.heap.size w w1 := by
  refine ⟨_, _, run_bytes_of_string w 9 84 5 t Tryz.underlying9 Tryz.underlying84 Tryz.underlying5, ?_, ((Below.refl _ _).drew).alloc (Nat.le_refl _) _⟩
  intro j hj
  have := World.cell?_alloc_mark w.drew (bytesRow t (grownCap w t.size 0 5)) 5 ((bytesRow t (grownCap w t.size 0 5)).size, (bytesRow t (grownCap w t.size 0 5)).size + 1) j
  refine this.trans ?_
  rw [bytesRow_at t _ j (by simpa using hj), nums_at t j hj]
  rfl

theorem gF_bound2 (l : List Int) (base : Int) (h0 : 0 ≤ base) (h1 : base < 256) (hb : ∀ x ∈ l, 0 ≤ x ∧ x < 256) :
    ∀ k, k ≤ 2 → gF l base k < 1048576 := by
  intro k hk
  have b1 := getD_bound l hb 1
  have b2 := getD_bound l hb 2
  match k, hk with
  | 0, _ => simp only [gF]; omega
  | 1, _ => simp only [gF]; omega
  | 2, _ => simp only [gF]; omega

set_option maxRecDepth 100000 in
set_option maxHeartbeats 800000 in
theorem decode_in (s : ByteArray) (k : Nat) (w : World) (R T E : Int) (hs : s.size ≤ 140737488351232) (hk : k < s.size) (hR : R = decR (from_ s k)) (hT : T = if decN (from_ s k) = 0 then 0 else k + decN (from_ s k)) (hE : E = if decN (from_ s k) = 0 then 10 else 0) :
    Calls Tryz.prog 119 #[.string s, .int .i64 (k : Int)] w fun e w' => e = .returned (.tuple #[.int .i32 R, .int .i64 T, .int .i64 E]) ∧ Below w.heap.size w w' := by
  have HR := hide hR
  have HT := hide hT
  have HE := hide hE
  clear hR hT hE
  have hki : (k : Int) < (s.size : Int) := by omega
  have hk0 : ¬ (k : Int) < 0 := by omega
  have hL0 : (from_ s k).getD 0 0 = (s[k].toNat : Int) := by rw [← nums_at s k hk]; unfold from_; simp [List.getD]
  have hb0 := getD_bound _ (from_bound s k) 0
  rw [hL0] at hb0
  have H23 : Hid (∀ w, Calls Tryz.prog 155 #[.int .u8 (s[k].toNat : Int)] w fun e w' => e = .returned (.tuple #[.int .i32 (headR (s[k].toNat : Int)), .int .i64 (headN (s[k].toNat : Int))]) ∧ w = w') := fun w =>
    (head_any _ w hb0.1 hb0.2).mono fun e w' ⟨h1, h2⟩ => ⟨h1, h2.symm⟩
  have hN := headN_cases (s[k].toNat : Int)
  have HU := hide (u_none (from_ s k))
  have HC := hide (u_cont (from_ s k))
  have HN := hide (u_end (from_ s k) (from_bound s k))
  rw [hL0, from_length] at HU
  rw [hL0] at HC
  rw [hL0, from_length] at HN
  have hg := gF_bound (from_ s k) (headR (s[k].toNat : Int)) (by omega) (by omega) (from_bound s k)
  have HG := hide hg
  have HG2 := hide (gF_bound2 (from_ s k) (headR (s[k].toNat : Int)) (by omega) (by omega) (from_bound s k))
  have hn0 : 0 ≤ headN (s[k].toNat : Int) ∧ headN (s[k].toNat : Int) ≤ 4 := by omega
  obtain ⟨hn0, hn4⟩ := hn0
  clear hL0 hb0 hN hg
  generalize headN (s[k].toNat : Int) = N at *
  generalize headR (s[k].toNat : Int) = r0 at *
  go_enter Tryz.func119, Tryz.ntmps119
  go_wp2
  refine wp_scope_jumps 0 (fun a' w' => AtNone w a' w' ∧ decN (from_ s k) = 0 ∧ decR (from_ s k) = 0) (fun _ _ => 0) rfl ?_ ?_
  · by_cases c1 : N = 0
    · have D := hide (unhide HU (Or.inl c1) (by omega))
      subst c1
      go_wp2_with (go_at_call 155; refine (unhide H23 _).mono ?_; rintro e w' ⟨rfl, rfl⟩)
      go_step3
      exact ⟨rfl, ⟨⟨_, rfl, rfl⟩, Below.refl _ _⟩, unhide D⟩
    have c1' : (N == 0) = false := by simp; omega
    by_cases c2 : (s.size : Int) - k < N
    · have D := hide (unhide HU (Or.inr (by omega)) (by omega))
      go_wp2_with (go_at_call 155; refine (unhide H23 _).mono ?_; rintro e w' ⟨rfl, rfl⟩)
      go_step3
      exact ⟨rfl, ⟨⟨_, rfl, rfl⟩, Below.refl _ _⟩, unhide D⟩
    obtain ⟨m, rfl⟩ : ∃ m : Nat, N = (m : Int) + 1 := ⟨(N - 1).toNat, by omega⟩
    have hm3 : m ≤ 3 := by omega
    have hml : m + 1 ≤ s.size - k := by omega
    have hkd : decide ((k : Int) < 0) = false := by simp
    have hsd : decide ((s.size : Int) - (k : Int) < (m : Int) + 1) = false := by simp; omega
    have ht : nums (s.extract (k + 1) (k + (m + 1))) = ((nums s).drop (k + 1)).take m := by rw [nums_extract, show k + (m + 1) - (k + 1) = m by omega]
    have hts : (s.extract (k + 1) (k + (m + 1))).size = m := by rw [← nums_length, ht]; simp [nums_length]; omega
    obtain ⟨w1, cap1, hcv, hce, hb1⟩ := bytes_new (s.extract (k + 1) (k + (m + 1))) w
    rw [hts] at hcv hce
    have hce' : ∀ j, j < m → w1.cell? ⟨w.heap.size, j, none⟩ = some (.int .u8 ((from_ s k).getD (j + 1) 0)) := fun j hj => by
      rw [hce j hj, ht]
      congr 2
      unfold from_
      simp [List.getD, hj]
      congr 2
      omega
    have HCE := hide hce'
    have BB := hide (getD_bound (from_ s k) (from_bound s k))
    clear hce hce' ht hts
    go_wp2_with (first | (go_at_call 155; refine (unhide H23 _).mono ?_; rintro e w' ⟨rfl, rfl⟩) | fail)
    go_loop [7, 45] (fun r i => ∃ j : Nat, j ≤ m ∧ i = .int .i64 j ∧ r = .int .i32 (gF (from_ s k) r0 j) ∧ ∀ q, 1 ≤ q → q ≤ j → cont ((from_ s k).getD q 0) = true) (fun _ i => m - (intOf i).toNat)
    case atStart => exact ⟨0, Nat.zero_le _, rfl, rfl, fun q h1 h2 => by omega⟩
    case round =>
      obtain ⟨j, hj, rfl, rfl, hq⟩ := hrel
      have HQ := hide hq
      clear hq
      have hgj := unhide HG j (by omega)
      obtain ⟨hg0, hg1⟩ := hgj
      by_cases hlt : j < m
      · have hlti : (j : Int) < (m : Int) := by omega
        have hc := unhide HCE j hlt
        obtain ⟨bb0, bb1⟩ := unhide BB (j + 1)
        have HS : Hid (gF (from_ s k) r0 (j + 1) = 64 * gF (from_ s k) r0 j + (from_ s k).getD (j + 1) 0 % 64) := rfl
        have HC1 := hide (unhide HC (j + 1) (by omega) (by omega))
        have HQ1 : Hid (cont ((from_ s k).getD (j + 1) 0) = true → ∀ q, 1 ≤ q → q ≤ j + 1 → cont ((from_ s k).getD q 0) = true) := fun h q h1 h2 => by
          by_cases hqj : q ≤ j
          · exact unhide HQ q h1 hqj
          · rw [show q = j + 1 by omega]; exact h
        generalize (from_ s k).getD (j + 1) 0 = b at *
        have e1 := u8_andNot63 b bb0 bb1
        have e2 := u8_and63 b bb0 bb1
        cases hcb : cont b
        · have D := hide (unhide HC1 hcb)
          have hne : (b / 64 * 64 != 128) = true := by unfold cont at hcb; rw [decide_eq_false_iff_not] at hcb; simp; omega
          clear hcb
          go_wp2
          go_step3
          exact ⟨rfl, ⟨⟨_, rfl, rfl⟩, hb1⟩, unhide D⟩
        · have hne : (b / 64 * 64 != 128) = false := by unfold cont at hcb; rw [decide_eq_true_iff] at hcb; simp; omega
          have HCB := hide hcb
          have hg2 := unhide HG2 j (by omega)
          have e3 := i32_or64 (gF (from_ s k) r0 j) (b % 64) hg0 (by omega) (by omega) (by omega)
          clear hcb
          go_wp2
          go_round
          case rel => exact ⟨j + 1, by omega, by go_num, by rw [unhide HS], unhide HQ1 (unhide HCB)⟩
          case measure => simp [intOf]; omega
      · have hlti : ¬ (j : Int) < (m : Int) := by omega
        have hjm : j = m := by omega
        subst hjm
        obtain ⟨HY, HNo⟩ := unhide HN j rfl hml (unhide HQ)
        have H13 : Hid (∀ w, Calls Tryz.prog 125 #[.int .i32 (gF (from_ s k) r0 j)] w fun e w' => e = .returned (.int .i64 (lenOf (gF (from_ s k) r0 j))) ∧ w = w') := fun w => (length_any _ w).mono fun e w' ⟨h1, h2⟩ => ⟨h1, h2.symm⟩
        by_cases hlen : lenOf (gF (from_ s k) r0 j) = (j : Int) + 1
        · have D := hide (HY hlen)
          rw [hlen] at H13
          clear HY HNo hlen
          go_wp2_with (go_at_call 125; refine (unhide H13 _).mono ?_; rintro e w' ⟨rfl, rfl⟩)
          simp only [Exit.jump]
          go_ret3
          obtain ⟨d1, d2⟩ := unhide D
          refine ⟨ret_rte ?_ ?_ ?_, hb1⟩
          · rw [unhide HR, d2]
          · rw [unhide HT, d1, if_neg (by omega)]
          · rw [unhide HE, d1, if_neg (by omega)]
        · have D := hide (HNo hlen)
          have hle : (lenOf (gF (from_ s k) r0 j) != (j : Int) + 1) = true := by simp [hlen]
          clear HY HNo hlen
          generalize lenOf (gF (from_ s k) r0 j) = q at *
          go_wp2_with (go_at_call 125; refine (unhide H13 _).mono ?_; rintro e w' ⟨rfl, rfl⟩)
          go_step3
          exact ⟨rfl, ⟨⟨_, rfl, rfl⟩, hb1⟩, unhide D⟩
  · rintro a' w' ⟨⟨⟨t, ht, rfl⟩, hb⟩, d1, d2⟩
    go_wp2
    simp only [Exit.jump]
    go_ret3
    refine ⟨?_, hb⟩
    have hr : R = 0 := by rw [unhide HR, d2]
    have hT : T = 0 := by rw [unhide HT, d1]; rfl
    have hE : E = 10 := by rw [unhide HE, d1]; rfl
    simp [hr, hT, hE, Array.getD, ht]
end Go.Proofs.YtefobkgifigclaaGreatDoor
/- Plain mathematics: reading code points one behind the other. -/
namespace Go.Proofs.YtefobkgifigclaaGreatDoor
set_option maxRecDepth 100000
open Go.RowKit

/-- The code points that are read, and how many bytes they have, till there is none. -/
def runP : Nat → List Int → List Int
  | 0, _ => []
  | f + 1, L => if decN L = 0 then [] else decR L :: runP f (L.drop (decN L).toNat)
def runN : Nat → List Int → Nat
  | 0, _ => 0
  | f + 1, L => if decN L = 0 then 0 else (decN L).toNat + runN f (L.drop (decN L).toNat)

theorem decN_cases (L : List Int) : (decN L = 0 ∧ decR L = 0) ∨ (∃ n : Nat, 1 ≤ n ∧ n ≤ 4 ∧ n ≤ L.length ∧ decN L = n) := by
  unfold decN decR
  cases h1 : is1 L
  · cases h2 : is2 L
    · cases h3 : is3 L
      · cases h4 : is4 L
        · simp
        · right; unfold is4 at h4; rw [decide_eq_true_iff] at h4; exact ⟨4, by omega, by omega, by omega, by simp⟩
      · right; unfold is3 at h3; rw [decide_eq_true_iff] at h3; exact ⟨3, by omega, by omega, by omega, by simp⟩
    · right; unfold is2 at h2; rw [decide_eq_true_iff] at h2; exact ⟨2, by omega, by omega, by omega, by simp⟩
  · right; unfold is1 at h1; rw [decide_eq_true_iff] at h1; exact ⟨1, by omega, by omega, by omega, by simp⟩

theorem decN_nil : decN [] = 0 := by
  rcases decN_cases [] with h | ⟨n, h1, _, h3, _⟩
  · exact h.1
  · simp at h3; omega
theorem runP_nil (f : Nat) : runP f [] = [] := by cases f <;> simp [runP, decN_nil]
theorem runN_nil (f : Nat) : runN f [] = 0 := by cases f <;> simp [runN, decN_nil]

/-- What is taken at the head, laid, is what it was taken from. -/
theorem dec_back (L : List Int) (hb : ∀ x ∈ L, 0 ≤ x ∧ x < 256) (h : decN L ≠ 0) : isPt (decR L) = true ∧ enc1 (decR L) = L.take (decN L).toNat := by
  have t1 := try1 L hb
  have t2 := try2 L hb
  have t3 := try3 L hb
  have t4 := try4 L hb
  have key : ∀ n : Nat, 1 ≤ n → n ≤ 4 → (∀ m, 1 ≤ m → m < n → tryN L m = false) → tryN L n = true → isPt (decR L) = true ∧ enc1 (decR L) = L.take (decN L).toNat := by
    intro n h1 h4 hno hyes
    obtain ⟨d1, d2⟩ := decN_n L hb n h1 h4 hno hyes
    rw [d1, d2]
    unfold tryN at hyes
    simp at hyes
    simpa using hyes.2
  cases h1 : is1 L
  · cases h2 : is2 L
    · cases h3 : is3 L
      · cases h4 : is4 L
        · exact absurd (dec_no L h1 h2 h3 h4).1 h
        · refine key 4 (by omega) (by omega) (fun m a b => ?_) (by rw [t4, h4])
          have : m = 1 ∨ m = 2 ∨ m = 3 := by omega
          rcases this with rfl | rfl | rfl
          · rw [t1, h1]
          · rw [t2, h2]
          · rw [t3, h3]
      · refine key 3 (by omega) (by omega) (fun m a b => ?_) (by rw [t3, h3])
        have : m = 1 ∨ m = 2 := by omega
        rcases this with rfl | rfl
        · rw [t1, h1]
        · rw [t2, h2]
    · refine key 2 (by omega) (by omega) (fun m a b => ?_) (by rw [t2, h2])
      have : m = 1 := by omega
      subst this
      rw [t1, h1]
  · refine key 1 (by omega) (by omega) (fun m a b => ?_) (by rw [t1, h1])
    omega

theorem runP_back (f : Nat) : ∀ (L : List Int), (∀ x ∈ L, 0 ≤ x ∧ x < 256) → okL (runP f L) = true ∧ encL (runP f L) = L.take (runN f L) := by
  induction f with
  | zero => intro L _; simp [runP, runN, okL, encL]
  | succ f ih =>
    intro L hb
    by_cases h : decN L = 0
    · simp [runP, runN, h, okL, encL]
    · obtain ⟨p, q⟩ := dec_back L hb h
      obtain ⟨i1, i2⟩ := ih (L.drop (decN L).toNat) (fun x hx => hb x (List.mem_of_mem_drop hx))
      simp only [runP, runN, if_neg h]
      refine ⟨?_, ?_⟩
      · unfold okL at i1 ⊢
        simp only [List.all_cons, p, i1, Bool.and_self]
      · simp only [encL]
        rw [q, i2, List.take_add]

/-- The bytes of a code point are read as it. -/
theorem dec_enc (r : Int) (h : isPt r = true) (t : List Int) : decN (enc1 r ++ t) = (enc1 r).length ∧ decR (enc1 r ++ t) = r := by
  obtain ⟨h0, h1⟩ := isPt_lo h
  unfold enc1
  by_cases a : r < 128
  · simp only [if_pos a]
    have i1 : is1 ([r] ++ t) = true := by unfold is1; simp; omega
    unfold decN decR
    simp only [i1, if_true]
    simp
  by_cases b : r < 2048
  · simp only [if_neg a, if_pos b]
    have i1 : is1 ([192 + r / 64, 128 + r % 64] ++ t) = false := by unfold is1; simp; omega
    have e : r2 ([192 + r / 64, 128 + r % 64] ++ t) = r := by simp [r2]; omega
    have i2 : is2 ([192 + r / 64, 128 + r % 64] ++ t) = true := by unfold is2; rw [e]; simp [cont]; omega
    unfold decN decR
    rw [e]
    simp only [i1, i2, if_true, Bool.false_eq_true, if_false]
    simp
  by_cases c : r < 65536
  · simp only [if_neg a, if_neg b, if_pos c]
    have i1 : is1 ([224 + r / 4096, 128 + r / 64 % 64, 128 + r % 64] ++ t) = false := by unfold is1; simp; omega
    have i2 : is2 ([224 + r / 4096, 128 + r / 64 % 64, 128 + r % 64] ++ t) = false := by unfold is2; simp; omega
    have e : r3 ([224 + r / 4096, 128 + r / 64 % 64, 128 + r % 64] ++ t) = r := by simp [r3]; omega
    have i3 : is3 ([224 + r / 4096, 128 + r / 64 % 64, 128 + r % 64] ++ t) = true := by unfold is3; rw [e]; simp [cont, h]; omega
    unfold decN decR
    rw [e]
    simp only [i1, i2, i3, if_true, Bool.false_eq_true, if_false]
    simp
  · simp only [if_neg a, if_neg b, if_neg c]
    have i1 : is1 ([240 + r / 262144, 128 + r / 4096 % 64, 128 + r / 64 % 64, 128 + r % 64] ++ t) = false := by unfold is1; simp; omega
    have i2 : is2 ([240 + r / 262144, 128 + r / 4096 % 64, 128 + r / 64 % 64, 128 + r % 64] ++ t) = false := by unfold is2; simp; omega
    have i3 : is3 ([240 + r / 262144, 128 + r / 4096 % 64, 128 + r / 64 % 64, 128 + r % 64] ++ t) = false := by unfold is3; simp; omega
    have e : r4 ([240 + r / 262144, 128 + r / 4096 % 64, 128 + r / 64 % 64, 128 + r % 64] ++ t) = r := by simp [r4]; omega
    have i4 : is4 ([240 + r / 262144, 128 + r / 4096 % 64, 128 + r / 64 % 64, 128 + r % 64] ++ t) = true := by unfold is4; rw [e]; simp [cont, h]; omega
    unfold decN decR
    rw [e]
    simp only [i1, i2, i3, i4, if_true, Bool.false_eq_true, if_false]
    simp

theorem encL_byte (l : List Int) (h : okL l = true) : ∀ x ∈ encL l, 0 ≤ x ∧ x < 256 := by
  induction l with
  | nil => simp [encL]
  | cons r l ih =>
    unfold okL at h
    simp only [List.all_cons, Bool.and_eq_true] at h
    intro x hx
    rcases List.mem_append.1 hx with h' | h'
    · exact enc1_byte r h.1 x h'
    · exact ih h.2 x h'

theorem run_enc (l : List Int) (h : okL l = true) : ∀ f, (encL l).length ≤ f → runP f (encL l) = l ∧ runN f (encL l) = (encL l).length := by
  induction l with
  | nil => intro f _; simp [encL, runP_nil, runN_nil]
  | cons r l ih =>
    intro f hf
    have h' := h
    unfold okL at h'
    simp only [List.all_cons, Bool.and_eq_true] at h'
    obtain ⟨d1, d2⟩ := dec_enc r h'.1 (encL l)
    have hl : 1 ≤ (enc1 r).length := by
      have := enc1_len h'.1
      have h2 : 1 ≤ lenOf r := by
        unfold lenOf; rw [if_pos h'.1]; split
        · omega
        · split
          · omega
          · split <;> omega
      omega
    simp only [encL, List.length_append] at hf ⊢
    match f, hf with
    | 0, hf => omega
    | f + 1, hf =>
      simp only [runP, runN, d1, d2]
      rw [if_neg (by omega), if_neg (by omega)]
      have hdrop : (enc1 r ++ encL l).drop ((enc1 r).length : Int).toNat = encL l := by simp
      rw [hdrop]
      obtain ⟨i1, i2⟩ := ih h'.2 f (by omega)
      rw [i1, i2]
      exact ⟨rfl, by simp⟩
end Go.Proofs.YtefobkgifigclaaGreatDoor
/- Contracts of Runes, the program's and the document's. -/
namespace Go.Proofs.YtefobkgifigclaaGreatDoor
set_option maxRecDepth 100000
open Go.RowKit

theorem Tryz.info21 : (Tryz.prog.info? 21).map (fun i => (i.zero, i.size, i.bytes)) = some (some (.int .i32 0), 1, 4) := by kernel_rfl

/-- What Runes tells. -/
def ruOk (s : ByteArray) : Bool := decide (runN s.size (nums s) = s.size)
def ruP (s : ByteArray) : List Int := if ruOk s then runP s.size (nums s) else []
def ruA (s : ByteArray) : Int := runN s.size (nums s)
def ruE (s : ByteArray) : Int := if ruOk s then 0 else 10

theorem from_drop (s : ByteArray) (k n : Nat) : (from_ s k).drop n = from_ s ((k + n : Nat) : Int) := by
  unfold from_; rw [List.drop_drop, Int.toNat_natCast, Int.toNat_natCast]
theorem from_zero (s : ByteArray) : from_ s ((0 : Nat) : Int) = nums s := by unfold from_; simp
theorem from_end (s : ByteArray) (k : Nat) (h : s.size ≤ k) : from_ s (k : Int) = [] := by
  unfold from_; simp [nums_length, h]

/-- How it stands at the place k, P read so far. -/
def Stand (s : ByteArray) (k : Nat) (P : List Int) : Prop :=
  k ≤ s.size ∧ P.length ≤ k ∧ ∃ f, s.size - k ≤ f ∧ P ++ runP f (from_ s k) = runP s.size (nums s) ∧ k + runN f (from_ s k) = runN s.size (nums s)

theorem stand_start (s : ByteArray) : Stand s 0 [] := ⟨by omega, by simp, s.size, by omega, by rw [from_zero]; rfl, by rw [from_zero]; omega⟩
theorem stand_end (s : ByteArray) (k : Nat) (P : List Int) (h : Stand s k P) (hk : ¬ k < s.size) : k = s.size ∧ ruP s = P ∧ ruA s = k ∧ ruE s = 0 := by
  obtain ⟨h1, _, f, _, h3, h4⟩ := h
  rw [from_end s k (by omega)] at h3 h4
  rw [runP_nil] at h3
  rw [runN_nil] at h4
  have hok : ruOk s = true := by unfold ruOk; rw [decide_eq_true_iff]; omega
  refine ⟨by omega, ?_, ?_, ?_⟩
  · unfold ruP; rw [hok, ← h3]; simp
  · unfold ruA; omega
  · unfold ruE; rw [hok]; rfl
theorem stand_bad (s : ByteArray) (k : Nat) (P : List Int) (h : Stand s k P) (hk : k < s.size) (h0 : decN (from_ s k) = 0) : ruP s = [] ∧ ruA s = k ∧ ruE s = 10 := by
  obtain ⟨h1, _, f, h2, h3, h4⟩ := h
  have hN : runN f (from_ s k) = 0 := by
    match f, h2 with
    | 0, h2 => omega
    | f + 1, _ => simp [runN, h0]
  have hok : ruOk s = false := by unfold ruOk; rw [decide_eq_false_iff_not]; omega
  refine ⟨?_, ?_, ?_⟩
  · unfold ruP; rw [hok]; rfl
  · unfold ruA; omega
  · unfold ruE; rw [hok]; rfl
theorem stand_step (s : ByteArray) (k n : Nat) (P : List Int) (h : Stand s k P) (h1 : 1 ≤ n) (hn : decN (from_ s k) = n) (hl : n ≤ (from_ s k).length) (hk : k < s.size) : Stand s (k + n) (P ++ [decR (from_ s k)]) := by
  obtain ⟨g1, g2, f, g3, g4, g5⟩ := h
  rw [from_length] at hl
  refine ⟨by omega, by simp; omega, ?_⟩
  match f, g3 with
  | 0, g3 => omega
  | f + 1, g3 =>
    simp only [runP, runN] at g4 g5
    rw [if_neg (by omega), hn, Int.toNat_natCast, from_drop] at g4 g5
    exact ⟨f, by omega, by rw [← g4]; simp, by rw [← g5]; omega⟩

theorem own32_push {B : Nat} {w0 wa w1 : World} {xs : List Int} {v v1 : Value} {z : Int} (hna : Below B w0 wa) (hB : B ≤ wa.heap.size)
    (hown : wa.ownsRow B 21 1 v xs.length (xs.map (Value.int .i32)))
    (hown1 : w1.ownsRow B 21 1 v1 (xs.length + 1) (xs.map (Value.int .i32) ++ [.int .i32 z]))
    (hgrow : wa.grownBy w1 v.ownBlock) : w1.ownsRow B 21 1 v1 (xs ++ [z]).length ((xs ++ [z]).map (Value.int .i32)) ∧ Below B w0 w1 := by
  refine ⟨?_, hna.grown hgrow hB fun k hk => (hown.lt k hk).1⟩
  simpa using hown1

theorem ret_vre {v : Value} {a a' b b' : Int} (h : a = a') (h' : b = b') : Ending.returned (.tuple #[v, .int .i64 a, .int .i64 b]) = .returned (.tuple #[v, .int .i64 a', .int .i64 b']) := by rw [h, h']

set_option maxHeartbeats 800000 in
theorem runes_any (s : ByteArray) (w : World) (hs : s.size ≤ 80000) :
    Calls Tryz.prog 88 #[.string s] w fun e w' => ∃ v, e = .returned (.tuple #[v, .int .i64 (ruA s), .int .i64 (ruE s)]) ∧ w'.ownsRow w.heap.size 21 1 v (ruP s).length ((ruP s).map (Value.int .i32)) ∧ Below w.heap.size w w' := by
  obtain ⟨i0, hi, hz0, hz1, hz2⟩ := info_parts Tryz.info21
  have hml : s.size ≤ maxLen := by unfold maxLen; omega
  go_enter Tryz.func88, Tryz.ntmps88
  go_wp2_with (refine wpList_make_own _ rfl _ _ 131 rfl w.heap.size 21 i0 (.int .i32 0) 1 Tryz.underlying131 hi hz0 hz1 .i64 .i64 _ s.size rfl rfl rfl (by rw [hz2]; omega) hml (Nat.le_refl _) ?_; intro w1 hown1 hgrow1)
  have HB : Below w.heap.size w w1 := (Below.refl _ _).grown hgrow1 (Nat.le_refl _) (by intro k h; cases h)
  have HO := hown1
  clear hown1 hgrow1
  go_loopw [5, 6] (fun v i wr => ∃ (k : Nat) (P : List Int), i = .int .i64 k ∧ Stand s k P ∧ wr.ownsRow w.heap.size 21 1 v P.length (P.map (Value.int .i32)) ∧ Below w.heap.size w wr) (fun _ i _ => s.size - (intOf i).toNat)
  case atStart => exact ⟨0, [], rfl, stand_start s, HO, HB⟩
  case round =>
    clear HO HB
    obtain ⟨k, P, rfl, hst, hown, hnx⟩ := hrel
    have hsz := hnx.size
    have hP := hst.2.1
    have hks := hst.1
    have HST := hide hst
    clear hst
    by_cases hlt : k < s.size
    · have hzl : (k : Int) < (s.size : Int) := by omega
      rcases decN_cases (from_ s k) with ⟨d0, d0'⟩ | ⟨n, n1, n4, nl, dn⟩
      · have D := hide (stand_bad s k P (unhide HST) hlt d0)
        have H16 : Hid (∀ w, Calls Tryz.prog 119 #[.string s, .int .i64 (k : Int)] w fun e w' => e = .returned (.tuple #[.int .i32 0, .int .i64 0, .int .i64 10]) ∧ Below w.heap.size w w') := fun w =>
          decode_in s k w 0 0 10 (by omega) hlt d0'.symm (by rw [d0]; rfl) (by rw [d0]; rfl)
        clear d0 d0'
        go_wp2_with (go_at_call 119; refine (unhide H16 _).mono ?_; rintro e w2 ⟨rfl, hb2⟩)
        go_ret3
        obtain ⟨e1, e2, e3⟩ := unhide D
        refine ⟨_, ret_vre e2.symm e3.symm, ?_, hnx.trans (hb2.mono hsz)⟩
        rw [e1]
        exact World.ownsRow_nil _ _ _ _
      · have D := hide (stand_step s k n P (unhide HST) n1 dn nl hlt)
        rw [from_length] at nl
        have H16 : Hid (∀ w, Calls Tryz.prog 119 #[.string s, .int .i64 (k : Int)] w fun e w' => e = .returned (.tuple #[.int .i32 (decR (from_ s k)), .int .i64 ((k : Int) + (n : Int)), .int .i64 0]) ∧ Below w.heap.size w w') := fun w =>
          decode_in s k w _ _ 0 (by omega) hlt rfl (by rw [dn, if_neg (by omega)]) (by rw [dn, if_neg (by omega)])
        clear dn
        have hm1 : P.length + 1 ≤ maxLen := by unfold maxLen; omega
        have hm2 : (P.length + 1) * 4 ≤ 140737488355328 := by omega
        generalize decR (from_ s k) = z at *
        go_wp2_with (first
          | (go_at_call 119; refine (unhide H16 _).mono ?_; rintro e w2 ⟨rfl, hb2⟩; have hown2 := own_below hown hb2; have hsz2 := hb2.size)
          | (at_builtin; refine wpList_append_lies _ rfl _ _ 131 rfl w.heap.size 21 i0 _ 1 4 Tryz.underlying131 hi hz0 hz1 hz2 rfl (by omega) _ _ _ rfl (hown2.alloc _) ⟨w2.heap.size, 0, none⟩ 1 1 [.int .i32 z] rfl rfl (cell_one_new _ _ _) (by simp [Value.oneCell']) (by omega) hm1 hm2 (by simp; omega) (w2.heap.size + 1) (by simp) ?_; intro g3 cap3 w3 hown3 hgrow3 hat3 hlt3))
        have HO3 := own32_push ((hnx.trans (hb2.mono hsz)).alloc (by omega) _) (by simp; omega) (hown2.alloc _) hown3 hgrow3
        clear hown3 hgrow3 hat3 hlt3 hown2 hm1 hm2 hown
        go_wp2
        go_roundw
        case rel => exact ⟨k + n, P ++ [z], by go_num, unhide D, HO3.1, HO3.2⟩
        case measure => simp [intOf]; omega
    · have hzl : ¬ (k : Int) < (s.size : Int) := by omega
      have D := hide (stand_end s k P (unhide HST) hlt)
      go_wp2
      go_ret3
      obtain ⟨e0, e1, e2, e3⟩ := unhide D
      refine ⟨_, ret_vre e2.symm e3.symm, ?_, hnx⟩
      rw [e1]
      exact hown
end Go.Proofs.YtefobkgifigclaaGreatDoor
