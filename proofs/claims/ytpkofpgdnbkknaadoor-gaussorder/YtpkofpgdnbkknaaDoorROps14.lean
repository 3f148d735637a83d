/- The document's Show, Norm, Turn and Times of layer 14. -/
import Derived.Test.YtpkofpgdnbkknaaDoorRPts14
namespace Go.Proofs.YtpkofpgdnbkknaaDoor
open Go.RowKit

/-- The text of a number. -/
def shZ (p : Option (Int × Int)) : ByteArray := match p with | some q => strOfNums (txt q.1 q.2) | none => strOfNums []
theorem ret_iii {a b a' b' c d : Int} (h : a = b) (h2 : a' = b') (h' : c = d) : Ending.returned (.tuple #[.int .i64 a, .int .i64 a', .int .i64 c]) = .returned (.tuple #[.int .i64 b, .int .i64 b', .int .i64 d]) := by rw [h, h2, h']
theorem rparts_yes {x y : Nat} {a b : Int} (h : pz x y = some (a, b)) (w : World) : Calls Tryd.prog 15 #[zz x y] w fun e w' => e = .returned (.tuple #[.int .i64 a, .int .i64 b, .bool true]) ∧ Gr w w' := by
  have := rparts_any x y w
  rw [h] at this
  exact this
theorem rparts_no {x y : Nat} (h : pz x y = none) (w : World) : Calls Tryd.prog 15 #[zz x y] w fun e w' => e = .returned (.tuple #[.int .i64 0, .int .i64 0, .bool false]) ∧ Gr w w' := by
  have := rparts_any x y w
  rw [h] at this
  exact this
set_option maxHeartbeats 800000 in
theorem rshow14_any (x y : Nat) (w : World) : Calls Tryd.prog 11 #[zz x y] w fun e w' => e = .returned (.tuple #[.string (shZ (pz x y)), .int .i64 (errZ (pz x y))]) ∧ Gr w w' := by
  cases hp : pz x y with
  | none =>
    have HP := hide (fun W => rparts_no hp W)
    clear hp
    go_enter Tryd.func11, Tryd.ntmps11
    go_wp2_with (go_at_call 15; refine (unhide HP _).mono ?_; rintro e w1 ⟨rfl, g1⟩)
    go_ret2
    exact ⟨rfl, (Gr.one w _).trans g1⟩
  | some q =>
    obtain ⟨a, b⟩ := q
    have hi := pz_in hp
    have HP := hide (fun W => rparts_yes hp W)
    have HT := hide (fun W => rtext_any a b W hi.1 hi.2.1 hi.2.2.1 hi.2.2.2)
    clear hp hi
    go_enter Tryd.func11, Tryd.ntmps11
    go_wp2_with (first | (go_at_call 29; refine (unhide HT _).mono ?_; rintro e w2 ⟨rfl, g2⟩) | (go_at_call 15; refine (unhide HP _).mono ?_; rintro e w1 ⟨rfl, g1⟩))
    go_ret2
    exact ⟨rfl, ((Gr.one w _).trans g1).trans g2⟩
set_option maxHeartbeats 800000 in
theorem rnorm_any (x y : Nat) (w : World) : Calls Tryd.prog 19 #[zz x y] w fun e w' => e = .returned (.int .i64 (nrm (pz x y))) ∧ Gr w w' := by
  cases hp : pz x y with
  | none =>
    have HP := hide (fun W => rparts_no hp W)
    clear hp
    go_enter Tryd.func19, Tryd.ntmps19
    go_wp2_with (go_at_call 15; refine (unhide HP _).mono ?_; rintro e w1 ⟨rfl, g1⟩)
    go_ret
    exact ⟨rfl, (Gr.one w _).trans g1⟩
  | some q =>
    obtain ⟨a, b⟩ := q
    have hi := pz_in hp
    have HP := hide (fun W => rparts_yes hp W)
    have s1 := sq_bound a hi.1 hi.2.1
    have s2 := sq_bound b hi.2.2.1 hi.2.2.2
    have w1 : IntKind.i64.wrap (a * a) = a * a := wrap_in (by omega) (by omega)
    have w2 : IntKind.i64.wrap (b * b) = b * b := wrap_in (by omega) (by omega)
    have w3 : IntKind.i64.wrap (a * a + b * b) = a * a + b * b := wrap_in (by omega) (by omega)
    clear hp hi s1 s2
    go_enter Tryd.func19, Tryd.ntmps19
    go_wp2_with (go_at_call 15; refine (unhide HP _).mono ?_; rintro e w1 ⟨rfl, g1⟩)
    go_ret
    exact ⟨rfl, (Gr.one w _).trans g1⟩
theorem tmod_four (n : Int) : (n.tmod 4 < 0 ∧ n.tmod 4 + 4 = n % 4) ∨ (¬ n.tmod 4 < 0 ∧ n.tmod 4 = n % 4) := by
  rcases Int.le_total 0 n with h | h
  · right
    rw [Int.tmod_eq_emod_of_nonneg h]
    omega
  · have e := Int.tmod_eq_emod (a := n) (b := 4)
    rw [e]
    split <;> simp <;> omega
set_option maxHeartbeats 1600000 in
theorem rturn_any (x y : Nat) (n : Int) (w : World) : Calls Tryd.prog 14 #[zz x y, .int .i64 n] w fun e w' => e = .returned (.tuple #[.int .i64 (trn n (pz x y)).1, .int .i64 (trn n (pz x y)).2, .int .i64 (errZ (pz x y))]) ∧ Gr w w' := by
  cases hp : pz x y with
  | none =>
    have HP := hide (fun W => rparts_no hp W)
    clear hp
    go_enter Tryd.func14, Tryd.ntmps14
    go_wp2_with (go_at_call 15; refine (unhide HP _).mono ?_; rintro e w1 ⟨rfl, g1⟩)
    go_ret3
    exact ⟨rfl, (Gr.one w _).trans g1⟩
  | some q =>
    obtain ⟨a, b⟩ := q
    have hi := pz_in hp
    have HP := hide (fun W => rparts_yes hp W)
    clear hp
    have HI := hide hi
    clear hi
    obtain ⟨m, hm⟩ : ∃ m : Nat, (m : Int) = n % 4 := ⟨(n % 4).toNat, by omega⟩
    have hm4 : m < 4 := by omega
    have HM : Hid ((n % 4).toNat = m) := by show _ = _; omega
    rcases tmod_four n with ⟨t1, t2⟩ | ⟨t1, t2⟩
    · rw [← hm] at t2
      have z1 : IntKind.i64.wrap (n.tmod 4 + 4) = m := (wrap_in (by omega) (by omega)).trans t2
      clear t2 hm
      go_enter Tryd.func14, Tryd.ntmps14
      go_wp2_with (go_at_call 15; refine (unhide HP _).mono ?_; rintro e w1 ⟨rfl, g1⟩)
      go_loopw [7, 8, 10] (fun va vb vk wr => ∃ (j : Nat) (p q : Int), j ≤ m ∧ va = .int .i64 p ∧ vb = .int .i64 q ∧ vk = .int .i64 (j : Int) ∧ -999999 ≤ p ∧ p ≤ 999999 ∧ -999999 ≤ q ∧ q ≤ 999999 ∧ Hid (rot m (a, b) = rot j (p, q)) ∧ Gr w wr) (fun _ _ k _ => (intOf k).toNat)
      case atStart => exact ⟨m, a, b, Nat.le_refl _, rfl, rfl, rfl, (unhide HI).1, (unhide HI).2.1, (unhide HI).2.2.1, (unhide HI).2.2.2, rfl, (Gr.one w _).trans g1⟩
      case round =>
        obtain ⟨j, p, q, hj, rfl, rfl, rfl, p1, p2, q1, q2, HR, hnx⟩ := hrel
        by_cases hj0 : j = 0
        · subst hj0
          go_wp2
          go_ret3
          refine ⟨?_, hnx⟩
          have e : trn n (some (a, b)) = (p, q) := by
            show rot (n % 4).toNat (a, b) = (p, q)
            rw [unhide HM, unhide HR]; rfl
          rw [e]
          rfl
        · have zj : (0 : Int) < (j : Int) := by omega
          have w1 : IntKind.i64.wrap (-q) = -q := wrap_in (by omega) (by omega)
          have w2 : IntKind.i64.wrap ((j : Int) - 1) = (j : Int) - 1 := wrap_in (by omega) (by omega)
          go_wp2
          go_roundw
          case rel =>
            obtain ⟨i, rfl⟩ : ∃ i, j = i + 1 := ⟨j - 1, by omega⟩
            exact ⟨i, -q, p, by omega, rfl, rfl, by rw [show ((i + 1 : Nat) : Int) - 1 = i by omega], by omega, by omega, p1, p2, unhide HR, hnx⟩
          case measure => simp [intOf]; omega
    · rw [← hm] at t2
      have t3 : ¬ (m : Int) < 0 := by omega
      clear t1 hm
      go_enter Tryd.func14, Tryd.ntmps14
      go_wp2_with (go_at_call 15; refine (unhide HP _).mono ?_; rintro e w1 ⟨rfl, g1⟩)
      go_loopw [7, 8, 10] (fun va vb vk wr => ∃ (j : Nat) (p q : Int), j ≤ m ∧ va = .int .i64 p ∧ vb = .int .i64 q ∧ vk = .int .i64 (j : Int) ∧ -999999 ≤ p ∧ p ≤ 999999 ∧ -999999 ≤ q ∧ q ≤ 999999 ∧ Hid (rot m (a, b) = rot j (p, q)) ∧ Gr w wr) (fun _ _ k _ => (intOf k).toNat)
      case atStart => exact ⟨m, a, b, Nat.le_refl _, rfl, rfl, rfl, (unhide HI).1, (unhide HI).2.1, (unhide HI).2.2.1, (unhide HI).2.2.2, rfl, (Gr.one w _).trans g1⟩
      case round =>
        obtain ⟨j, p, q, hj, rfl, rfl, rfl, p1, p2, q1, q2, HR, hnx⟩ := hrel
        by_cases hj0 : j = 0
        · subst hj0
          go_wp2
          go_ret3
          refine ⟨?_, hnx⟩
          have e : trn n (some (a, b)) = (p, q) := by
            show rot (n % 4).toNat (a, b) = (p, q)
            rw [unhide HM, unhide HR]; rfl
          rw [e]
          rfl
        · have zj : (0 : Int) < (j : Int) := by omega
          have w1 : IntKind.i64.wrap (-q) = -q := wrap_in (by omega) (by omega)
          have w2 : IntKind.i64.wrap ((j : Int) - 1) = (j : Int) - 1 := wrap_in (by omega) (by omega)
          go_wp2
          go_roundw
          case rel =>
            obtain ⟨i, rfl⟩ : ∃ i, j = i + 1 := ⟨j - 1, by omega⟩
            exact ⟨i, -q, p, by omega, rfl, rfl, by rw [show ((i + 1 : Nat) : Int) - 1 = i by omega], by omega, by omega, p1, p2, unhide HR, hnx⟩
          case measure => simp [intOf]; omega

end Go.Proofs.YtpkofpgdnbkknaaDoor
