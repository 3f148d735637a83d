/- The sort of runes: heapSort. -/
import Derived.Test.YtnlkefdicpeemaaSift
namespace Go.Proofs.Ytnlkefdicpeemaa
open Go.RowKit
open Go.Sort (Holds ltInt swp siftDown heapBuild heapPop heapSort PermIn SortedIn)

theorem sift_size (hi first : Nat) : ∀ (n root : Nat) (d : Array Int), hi - root ≤ n → (siftDown ltInt hi first root d).size = d.size
  | 0, root, d, hn => by rw [sift_end hi first root d (by omega)]
  | n + 1, root, d, hn => by
    by_cases h0 : hi ≤ 2 * root + 1
    · rw [sift_end hi first root d h0]
    · by_cases h2 : 2 * root + 2 < hi ∧ ltInt d[first + (2 * root + 1)]! d[first + (2 * root + 2)]! = true
      · rw [sift_right hi first root d h2.1 h2.2]
        split
        · rw [sift_size hi first n _ _ (by omega), Go.Sort.swp_size]
        · rfl
      · rw [sift_left hi first root d (by omega) (fun h => by
          cases hh : ltInt d[first + (2 * root + 1)]! d[first + (2 * root + 2)]!
          · rfl
          · exact absurd ⟨h, hh⟩ h2)]
        split
        · rw [sift_size hi first n _ _ (by omega), Go.Sort.swp_size]
        · rfl

theorem Rw.some_set {w : World} {p q : Addr} {x y : Value} (hp : w.cell? p = some x) (hq : w.cell? q = some y) (z : Value) : ∃ v, (w.setCell p z).cell? q = some v := by
  by_cases h : q = p
  · subst h; exact ⟨z, World.cell?_setCell_same' _ _ _ (by rw [hp]; rfl)⟩
  · exact ⟨y, by rw [World.cell?_setCell_other _ _ _ _ (fun e => h e.symm)]; exact hq⟩

set_option maxHeartbeats 1600000 in
theorem heap_any (blk off cap a b : Nat) (d : Array Int) (w0 w : World) (hR : Rw w0 blk off d w) (hab : a < b) (hb : b ≤ d.size) (hsz : d.size ≤ 60000) :
    Calls Try.prog 38 #[.slice (some ⟨blk, off, none⟩) d.size cap, .int .i64 a, .int .i64 b] w fun e w' => e = .returned (.tuple #[]) ∧ Rw w0 blk off (heapSort ltInt d a b) w' := by
  have RR := hide hR
  clear hR
  have HS := hide (fun (lo hi : Nat) (dk : Array Int) (W : World) (hk : dk.size = d.size) (h : Rw w0 blk off dk W) (h1 : lo ≤ hi) (h2 : a + hi ≤ d.size) => hk ▸ sift_any blk off cap lo hi a dk w0 W h h1 (by omega) (by omega))
  generalize hsn : d.size = sz at *
  have SN := hide hsn
  clear hsn
  obtain ⟨hi, hhi⟩ : ∃ hi, hi = b - a := ⟨_, rfl⟩
  obtain ⟨h0, hh0⟩ : ∃ h0, h0 = (hi - 1) / 2 := ⟨_, rfl⟩
  have HE : Hid (heapPop ltInt a hi (heapBuild ltInt hi a (h0 + 1) d) = heapSort ltInt d a b) := by
    show _ = heapPop ltInt a (b - a) _
    rw [hh0, hhi]
  have e1 : (b : Int) - (a : Int) = (hi : Int) := by omega
  have e2 : ((hi : Int) - 1).tdiv 2 = (h0 : Int) := by rw [Int.tdiv_eq_ediv_of_nonneg (by omega)]; omega
  have e3 : IntKind.i64.wrap ((b : Int) - (a : Int)) = (hi : Int) := by rw [IntKind.wrap_i64]; omega
  have e4 : IntKind.i64.wrap ((hi : Int) - 1) = (hi : Int) - 1 := by rw [IntKind.wrap_i64]; omega
  have hh1 : h0 < hi := by omega
  have hh2 : a + hi ≤ sz := by omega
  have e5 : ((hi : Int) - 1) / 2 = (h0 : Int) := by omega
  have e6 : (1 : Int) ≤ (hi : Int) := by omega
  clear hh0 hhi hb hab
  go_enter Try.func38, Try.ntmps38
  go_wp2
  go_loopw [9] (fun x wr => ∃ (k : Nat) (dk : Array Int), x = .int .i64 ((k : Int) - 1) ∧ k ≤ h0 + 1 ∧ Hid (dk.size = sz) ∧ Hid (Rw w0 blk off dk wr) ∧ Hid (heapBuild ltInt hi a k dk = heapBuild ltInt hi a (h0 + 1) d)) (fun x _ => (intOf x + 1).toNat)
  case atStart => exact ⟨h0 + 1, d, by congr 1; omega, Nat.le_refl _, SN, RR, hide rfl⟩
  case round =>
    obtain ⟨k, dk, rfl, hk, SK, RK, EK⟩ := hrel
    cases k with
    | succ k =>
      have z1 : ((k + 1 : Nat) : Int) - 1 = (k : Int) := by omega
      rw [z1]
      have z2 : (0 : Int) ≤ (k : Int) := by omega
      have z3 : IntKind.i64.wrap ((k : Int) - 1) = (k : Int) - 1 := by rw [IntKind.wrap_i64]; omega
      have H1 := hide (unhide HS k hi dk wr (unhide SK) (unhide RK) (by omega) hh2)
      go_wp2_with (go_at_call 48; refine (unhide H1).mono ?_; rintro e w' ⟨rfl, hr⟩)
      go_roundw
      case rel => exact ⟨k, siftDown ltInt hi a k dk, rfl, by omega, by show (siftDown ltInt hi a k dk).size = sz; rw [sift_size hi a _ _ _ (Nat.le_refl _)]; exact unhide SK, hr, unhide EK⟩
      case measure => simp [intOf]
    | zero =>
      rw [show (((0 : Nat) : Int) - 1) = -1 from rfl]
      have hdk : dk = heapBuild ltInt hi a (h0 + 1) d := unhide EK
      have HD := hide hdk
      clear hdk
      go_wp2
      go_loopw [10] (fun x wr => ∃ (k : Nat) (dk : Array Int), x = .int .i64 ((k : Int) - 1) ∧ k ≤ hi ∧ Hid (dk.size = sz) ∧ Hid (Rw w0 blk off dk wr) ∧ Hid (heapPop ltInt a k dk = heapSort ltInt d a b)) (fun x _ => (intOf x + 1).toNat)
      case atStart => exact ⟨hi, dk, rfl, Nat.le_refl _, SK, RK, by show heapPop ltInt a hi dk = _; rw [unhide HD]; exact unhide HE⟩
      case round =>
        obtain ⟨k, dj, rfl, hk2, SJ, RJ, EJ⟩ := hrel
        cases k with
        | succ k =>
          have z1 : ((k + 1 : Nat) : Int) - 1 = (k : Int) := by omega
          rw [z1]
          have z2 : (0 : Int) ≤ (k : Int) := by omega
          have z3 : IntKind.i64.wrap ((k : Int) - 1) = (k : Int) - 1 := by rw [IntKind.wrap_i64]; omega
          have z4 : IntKind.i64.wrap ((a : Int) + (k : Int)) = (a : Int) + (k : Int) := by rw [IntKind.wrap_i64]; omega
          have z5 : (0 : Int) ≤ (a : Int) + (k : Int) := by omega
          have z6 : (a : Int) + (k : Int) < (sz : Int) := by omega
          have z7 : (0 : Int) ≤ (a : Int) := by omega
          have z8 : (a : Int) < (sz : Int) := by omega
          have t0 : ((a : Int) + (k : Int)).toNat = a + k := by omega
          have sj := unhide SJ
          have k0 := (unhide RJ).cell (i := a) (by omega)
          have k1 := (unhide RJ).cell (i := a + k) (by omega)
          have f0 := (unhide RJ).fro (i := a) (by omega)
          have f1 := (unhide RJ).fro (i := a + k) (by omega)
          have HSW := hide (fun n x y => ((unhide RJ).drewN n).swap (i := a) (j := a + k) (by omega) (by omega) (x := x) (y := y))
          have SS : Hid ((swp dj a (a + k)).size = sz) := by show (swp dj a (a + k)).size = sz; rw [Go.Sort.swp_size]; exact sj
          clear sj
          generalize dj[a]! = x0 at *
          generalize dj[a + k]! = x1 at *
          obtain ⟨vv, hvv⟩ : ∃ v, (wr.setCell ⟨blk, off + a, none⟩ (.int .i32 x1)).cell? ⟨blk, off + (a + k), none⟩ = some v := Rw.some_set k0 k1 _
          go_wp2
          go_region
          go_wp2_with (go_at_call 48; refine (unhide HS 0 k (swp dj a (a + k)) _ (unhide SS) (unhide HSW 1 x1 x0 rfl rfl) (Nat.zero_le _) (by omega)).mono ?_; rintro e w' ⟨rfl, hr⟩)
          go_roundw
          case rel => exact ⟨k, siftDown ltInt k a 0 (swp dj a (a + k)), rfl, by omega, by show (siftDown ltInt k a 0 _).size = sz; rw [sift_size k a _ _ _ (Nat.le_refl _)]; exact unhide SS, hr, unhide EJ⟩
          case measure => simp [intOf]
        | zero =>
          go_wp2
          go_end0
          exact ⟨rfl, by rw [← unhide EJ]; exact unhide RJ⟩
end Go.Proofs.Ytnlkefdicpeemaa
