/- Contracts of Runes, the program's and the document's. -/
import Derived.Test.YtegpdppfdgcljaaURunPlain
import Derived.Test.YtegpdppfdgcljaaOwn
import Derived.Test.YtegpdppfdgcljaaUDec
import Derived.Deep.AppendLies
namespace Go.Proofs.Ytegpdppfdgcljaa
open Go.RowKit

theorem Try.info21 : (Try.prog.info? 21).map (fun i => (i.zero, i.size, i.bytes)) = some (some (.int .i32 0), 1, 4) := by kernel_rfl

/-- What Runes tells. -/
def ruOk (s : ByteArray) : Bool := decide (runN s.size (nums s) = s.size)
def ruP (s : ByteArray) : List Int := if ruOk s then runP s.size (nums s) else []
def ruA (s : ByteArray) : Int := runN s.size (nums s)
def ruE (s : ByteArray) : Int := if ruOk s then 0 else 10

theorem from_drop (s : ByteArray) (k n : Nat) : (from_ s k).drop n = from_ s ((k + n : Nat) : Int) := by
  unfold from_; rw [List.drop_drop, Int.toNat_natCast, Int.toNat_natCast]
theorem from_zero (s : ByteArray) : from_ s ((0 : Nat) : Int) = nums s := by unfold from_; simp
theorem from_end (s : ByteArray) (k : Nat) (h : s.size ≤ k) : from_ s (k : Int) = [] := by
  unfold from_; simp [nums_length, h]

/-- How it stands at the place k, P read so far. -/
def Stand (s : ByteArray) (k : Nat) (P : List Int) : Prop :=
  k ≤ s.size ∧ P.length ≤ k ∧ ∃ f, s.size - k ≤ f ∧ P ++ runP f (from_ s k) = runP s.size (nums s) ∧ k + runN f (from_ s k) = runN s.size (nums s)

theorem stand_start (s : ByteArray) : Stand s 0 [] := ⟨by omega, by simp, s.size, by omega, by rw [from_zero]; rfl, by rw [from_zero]; omega⟩
theorem stand_end (s : ByteArray) (k : Nat) (P : List Int) (h : Stand s k P) (hk : ¬ k < s.size) : k = s.size ∧ ruP s = P ∧ ruA s = k ∧ ruE s = 0 := by
  obtain ⟨h1, _, f, _, h3, h4⟩ := h
  rw [from_end s k (by omega)] at h3 h4
  rw [runP_nil] at h3
  rw [runN_nil] at h4
  have hok : ruOk s = true := by unfold ruOk; rw [decide_eq_true_iff]; omega
  refine ⟨by omega, ?_, ?_, ?_⟩
  · unfold ruP; rw [hok, ← h3]; simp
  · unfold ruA; omega
  · unfold ruE; rw [hok]; rfl
theorem stand_bad (s : ByteArray) (k : Nat) (P : List Int) (h : Stand s k P) (hk : k < s.size) (h0 : decN (from_ s k) = 0) : ruP s = [] ∧ ruA s = k ∧ ruE s = 10 := by
  obtain ⟨h1, _, f, h2, h3, h4⟩ := h
  have hN : runN f (from_ s k) = 0 := by
    match f, h2 with
    | 0, h2 => omega
    | f + 1, _ => simp [runN, h0]
  have hok : ruOk s = false := by unfold ruOk; rw [decide_eq_false_iff_not]; omega
  refine ⟨?_, ?_, ?_⟩
  · unfold ruP; rw [hok]; rfl
  · unfold ruA; omega
  · unfold ruE; rw [hok]; rfl
theorem stand_step (s : ByteArray) (k n : Nat) (P : List Int) (h : Stand s k P) (h1 : 1 ≤ n) (hn : decN (from_ s k) = n) (hl : n ≤ (from_ s k).length) (hk : k < s.size) : Stand s (k + n) (P ++ [decR (from_ s k)]) := by
  obtain ⟨g1, g2, f, g3, g4, g5⟩ := h
  rw [from_length] at hl
  refine ⟨by omega, by simp; omega, ?_⟩
  match f, g3 with
  | 0, g3 => omega
  | f + 1, g3 =>
    simp only [runP, runN] at g4 g5
    rw [if_neg (by omega), hn, Int.toNat_natCast, from_drop] at g4 g5
    exact ⟨f, by omega, by rw [← g4]; simp, by rw [← g5]; omega⟩

theorem own32_push {B : Nat} {w0 wa w1 : World} {xs : List Int} {v v1 : Value} {z : Int} (hna : Below B w0 wa) (hB : B ≤ wa.heap.size)
    (hown : wa.ownsRow B 21 1 v xs.length (xs.map (Value.int .i32)))
    (hown1 : w1.ownsRow B 21 1 v1 (xs.length + 1) (xs.map (Value.int .i32) ++ [.int .i32 z]))
    (hgrow : wa.grownBy w1 v.ownBlock) : w1.ownsRow B 21 1 v1 (xs ++ [z]).length ((xs ++ [z]).map (Value.int .i32)) ∧ Below B w0 w1 := by
  refine ⟨?_, hna.grown hgrow hB fun k hk => (hown.lt k hk).1⟩
  simpa using hown1

theorem ret_vre {v : Value} {a a' b b' : Int} (h : a = a') (h' : b = b') : Ending.returned (.tuple #[v, .int .i64 a, .int .i64 b]) = .returned (.tuple #[v, .int .i64 a', .int .i64 b']) := by rw [h, h']

set_option maxHeartbeats 800000 in
theorem runes_any (s : ByteArray) (w : World) (hs : s.size ≤ 80000) :
    Calls Try.prog 19 #[.string s] w fun e w' => ∃ v, e = .returned (.tuple #[v, .int .i64 (ruA s), .int .i64 (ruE s)]) ∧ w'.ownsRow w.heap.size 21 1 v (ruP s).length ((ruP s).map (Value.int .i32)) ∧ Below w.heap.size w w' := by
  obtain ⟨i0, hi, hz0, hz1, hz2⟩ := info_parts Try.info21
  have hml : s.size ≤ maxLen := by unfold maxLen; omega
  go_enter Try.func19, Try.ntmps19
  go_wp2_with (refine wpList_make_own _ rfl _ _ 22 rfl w.heap.size 21 i0 (.int .i32 0) 1 Try.underlying22 hi hz0 hz1 .i64 .i64 _ s.size rfl rfl rfl (by rw [hz2]; omega) hml (Nat.le_refl _) ?_; intro w1 hown1 hgrow1)
  have HB : Below w.heap.size w w1 := (Below.refl _ _).grown hgrow1 (Nat.le_refl _) (by intro k h; cases h)
  have HO := hown1
  clear hown1 hgrow1
  go_loopw [5, 6] (fun v i wr => ∃ (k : Nat) (P : List Int), i = .int .i64 k ∧ Stand s k P ∧ wr.ownsRow w.heap.size 21 1 v P.length (P.map (Value.int .i32)) ∧ Below w.heap.size w wr) (fun _ i _ => s.size - (intOf i).toNat)
  case atStart => exact ⟨0, [], rfl, stand_start s, HO, HB⟩
  case round =>
    clear HO HB
    obtain ⟨k, P, rfl, hst, hown, hnx⟩ := hrel
    have hsz := hnx.size
    have hP := hst.2.1
    have hks := hst.1
    have HST := hide hst
    clear hst
    by_cases hlt : k < s.size
    · have hzl : (k : Int) < (s.size : Int) := by omega
      rcases decN_cases (from_ s k) with ⟨d0, d0'⟩ | ⟨n, n1, n4, nl, dn⟩
      · have D := hide (stand_bad s k P (unhide HST) hlt d0)
        have H16 : Hid (∀ w, Calls Try.prog 29 #[.string s, .int .i64 (k : Int)] w fun e w' => e = .returned (.tuple #[.int .i32 0, .int .i64 0, .int .i64 10]) ∧ Below w.heap.size w w') := fun w =>
          decode_in s k w 0 0 10 (by omega) hlt d0'.symm (by rw [d0]; rfl) (by rw [d0]; rfl)
        clear d0 d0'
        go_wp2_with (go_at_call 29; refine (unhide H16 _).mono ?_; rintro e w2 ⟨rfl, hb2⟩)
        go_ret3
        obtain ⟨e1, e2, e3⟩ := unhide D
        refine ⟨_, ret_vre e2.symm e3.symm, ?_, hnx.trans (hb2.mono hsz)⟩
        rw [e1]
        exact World.ownsRow_nil _ _ _ _
      · have D := hide (stand_step s k n P (unhide HST) n1 dn nl hlt)
        rw [from_length] at nl
        have H16 : Hid (∀ w, Calls Try.prog 29 #[.string s, .int .i64 (k : Int)] w fun e w' => e = .returned (.tuple #[.int .i32 (decR (from_ s k)), .int .i64 ((k : Int) + (n : Int)), .int .i64 0]) ∧ Below w.heap.size w w') := fun w =>
          decode_in s k w _ _ 0 (by omega) hlt rfl (by rw [dn, if_neg (by omega)]) (by rw [dn, if_neg (by omega)])
        clear dn
        have hm1 : P.length + 1 ≤ maxLen := by unfold maxLen; omega
        have hm2 : (P.length + 1) * 4 ≤ 140737488355328 := by omega
        generalize decR (from_ s k) = z at *
        go_wp2_with (first
          | (go_at_call 29; refine (unhide H16 _).mono ?_; rintro e w2 ⟨rfl, hb2⟩; have hown2 := own_below hown hb2; have hsz2 := hb2.size)
          | (at_builtin; refine wpList_append_lies _ rfl _ _ 22 rfl w.heap.size 21 i0 _ 1 4 Try.underlying22 hi hz0 hz1 hz2 rfl (by omega) _ _ _ rfl (hown2.alloc _) ⟨w2.heap.size, 0, none⟩ 1 1 [.int .i32 z] rfl rfl (cell_one_new _ _ _) (by simp [Value.oneCell']) (by omega) hm1 hm2 (by simp; omega) (w2.heap.size + 1) (by simp) ?_; intro g3 cap3 w3 hown3 hgrow3 hat3 hlt3))
        have HO3 := own32_push ((hnx.trans (hb2.mono hsz)).alloc (by omega) _) (by simp; omega) (hown2.alloc _) hown3 hgrow3
        clear hown3 hgrow3 hat3 hlt3 hown2 hm1 hm2 hown
        go_wp2
        go_roundw
        case rel => exact ⟨k + n, P ++ [z], by go_num, unhide D, HO3.1, HO3.2⟩
        case measure => simp [intOf]; omega
    · have hzl : ¬ (k : Int) < (s.size : Int) := by omega
      have D := hide (stand_end s k P (unhide HST) hlt)
      go_wp2
      go_ret3
      obtain ⟨e0, e1, e2, e3⟩ := unhide D
      refine ⟨_, ret_vre e2.symm e3.symm, ?_, hnx⟩
      rw [e1]
      exact hown
set_option maxHeartbeats 800000 in
theorem rrunes_any (s : ByteArray) (w : World) (hs : s.size ≤ 80000) :
    Calls Try.prog 21 #[.string s] w fun e w' => ∃ v, e = .returned (.tuple #[v, .int .i64 (ruA s), .int .i64 (ruE s)]) ∧ w'.ownsRow w.heap.size 21 1 v (ruP s).length ((ruP s).map (Value.int .i32)) ∧ Below w.heap.size w w' := by
  obtain ⟨i0, hi, hz0, hz1, hz2⟩ := info_parts Try.info21
  go_enter Try.func21, Try.ntmps21
  go_wp2
  go_loopw [5, 6] (fun v i wr => ∃ (k : Nat) (P : List Int), i = .int .i64 k ∧ Stand s k P ∧ wr.ownsRow w.heap.size 21 1 v P.length (P.map (Value.int .i32)) ∧ Below w.heap.size w wr) (fun _ i _ => s.size - (intOf i).toNat)
  case atStart => exact ⟨0, [], rfl, stand_start s, World.ownsRow_nil _ _ _ _, Below.refl _ _⟩
  case round =>
    obtain ⟨k, P, rfl, hst, hown, hnx⟩ := hrel
    have hsz := hnx.size
    have hP := hst.2.1
    have hks := hst.1
    have HST := hide hst
    clear hst
    by_cases hlt : k < s.size
    · have hzl : (k : Int) < (s.size : Int) := by omega
      rcases decN_cases (from_ s k) with ⟨d0, d0'⟩ | ⟨n, n1, n4, nl, dn⟩
      · have D := hide (stand_bad s k P (unhide HST) hlt d0)
        have H17 : Hid (∀ w, Calls Try.prog 22 #[.string s, .int .i64 (k : Int)] w fun e w' => e = .returned (.tuple #[.int .i32 0, .int .i64 0, .int .i64 10]) ∧ Below w.heap.size w w') := fun w =>
          rdecode_in s k w 0 0 10 (by omega) hlt d0'.symm (by rw [d0]; rfl) (by rw [d0]; rfl)
        clear d0 d0'
        go_wp2_with (go_at_call 22; refine (unhide H17 _).mono ?_; rintro e w2 ⟨rfl, hb2⟩)
        go_ret3
        obtain ⟨e1, e2, e3⟩ := unhide D
        refine ⟨_, ret_vre e2.symm e3.symm, ?_, hnx.trans (hb2.mono hsz)⟩
        rw [e1]
        exact World.ownsRow_nil _ _ _ _
      · have D := hide (stand_step s k n P (unhide HST) n1 dn nl hlt)
        rw [from_length] at nl
        have H17 : Hid (∀ w, Calls Try.prog 22 #[.string s, .int .i64 (k : Int)] w fun e w' => e = .returned (.tuple #[.int .i32 (decR (from_ s k)), .int .i64 ((k : Int) + (n : Int)), .int .i64 0]) ∧ Below w.heap.size w w') := fun w =>
          rdecode_in s k w _ _ 0 (by omega) hlt rfl (by rw [dn, if_neg (by omega)]) (by rw [dn, if_neg (by omega)])
        clear dn
        have hm1 : P.length + 1 ≤ maxLen := by unfold maxLen; omega
        have hm2 : (P.length + 1) * 4 ≤ 140737488355328 := by omega
        generalize decR (from_ s k) = z at *
        go_wp2_with (first
          | (go_at_call 22; refine (unhide H17 _).mono ?_; rintro e w2 ⟨rfl, hb2⟩; have hown2 := own_below hown hb2; have hsz2 := hb2.size)
          | (at_builtin; refine wpList_append_lies _ rfl _ _ 22 rfl w.heap.size 21 i0 _ 1 4 Try.underlying22 hi hz0 hz1 hz2 rfl (by omega) _ _ _ rfl (hown2.alloc _) ⟨w2.heap.size, 0, none⟩ 1 1 [.int .i32 z] rfl rfl (cell_one_new _ _ _) (by simp [Value.oneCell']) (by omega) hm1 hm2 (by simp; omega) (w2.heap.size + 1) (by simp) ?_; intro g3 cap3 w3 hown3 hgrow3 hat3 hlt3))
        have HO3 := own32_push ((hnx.trans (hb2.mono hsz)).alloc (by omega) _) (by simp; omega) (hown2.alloc _) hown3 hgrow3
        clear hown3 hgrow3 hat3 hlt3 hown2 hm1 hm2 hown
        go_wp2
        go_roundw
        case rel => exact ⟨k + n, P ++ [z], by go_num, unhide D, HO3.1, HO3.2⟩
        case measure => simp [intOf]; omega
    · have hzl : ¬ (k : Int) < (s.size : Int) := by omega
      have D := hide (stand_end s k P (unhide HST) hlt)
      go_wp2
      go_ret3
      obtain ⟨e0, e1, e2, e3⟩ := unhide D
      refine ⟨_, ret_vre e2.symm e3.symm, ?_, hnx⟩
      rw [e1]
      exact hown

end Go.Proofs.Ytegpdppfdgcljaa
