/- compose.letterOf, of a letter and a mark that make a letter of Latin which is found before any search gives up. -/
import Derived.Test.YtefobkgifigclaaGreatDoorM17
import Derived.Test.YtefobkgifigclaaGreatDoorM15
import Derived.Test.YtefobkgifigclaaGreatDoorM02
import Derived.WideKeyPair
import Derived.Maps.OwnSet
namespace Go.Proofs.YtefobkgifigclaaGreatDoor
set_option maxRecDepth 100000
open Go.RowKit

/-- What decomp.Pair tells of a number from 41 to 140 in hex, plainly. -/
def prT (r : Int) : Option (Int × Int × Bool) := if r < 192 then some (0, 0, false) else if r ≤ 320 then prL r rows12 else none
theorem prT_any (r a m : Int) (b : Bool) (w : World) (h : prT r = some (a, m, b)) : Calls Tryz.prog 219 #[.int .i32 r] w fun e w' => e = .returned (.tuple #[.int .i32 a, .int .i32 m, .bool b]) ∧ Below w.heap.size w w' := by
  unfold prT at h
  by_cases h1 : r < 192
  · rw [if_pos h1] at h
    simp only [Option.some.injEq, Prod.mk.injEq] at h
    obtain ⟨rfl, rfl, rfl⟩ := h
    exact pair_out r w (.inl h1)
  · rw [if_neg h1] at h
    by_cases h2 : r ≤ 320
    · rw [if_pos h2] at h
      exact pair_in r a m b w (by omega) (by omega) h
    · rw [if_neg h2] at h
      cases h
theorem prT_le {r : Int} {q : Int × Int × Bool} (h : prT r = some q) : r ≤ 320 := by
  unfold prT at h
  split at h
  · omega
  · split at h
    · assumption
    · cases h
/-- compose.letterOf, plainly, from r on. -/
def letF (a b : Int) : Nat → Int → Option Int
  | 0, _ => none
  | n + 1, r =>
    match prT r with
    | none => none
    | some (x, m, ok) => if ok = true ∧ x = a ∧ m = b then some r else letF a b n (r + 1)
theorem idxS0 (W : World) : (Instr.index 279 (.agg scrs) (.int .i64 0)).run Tryz.prog W = .ok (.agg #[.int .i32 65, .int .i32 383]) W := by kernel_rfl

set_option maxHeartbeats 4000000 in
theorem letter_any (a b c : Int) (w : World) (hL : L12 w) (h0 : 65 ≤ a) (h1 : a ≤ 383) (h : letF a b 256 65 = some c) :
    Calls Tryz.prog 227 #[.int .i32 a, .int .i32 b] w fun e w' => e = .returned (.int .i32 c) ∧ Below w.heap.size w w' := by
  obtain ⟨ty, fr, hg0⟩ := hL.scr
  have x0 := idxS0
  have HX := hide h
  have z1 : ¬ a < 65 := by omega
  have z2 : ¬ 383 < a := by omega
  have z1' : decide (a < 65) = false := by simp; omega
  clear h hL
  go_enter Tryz.func227, Tryz.ntmps227
  go_wp2_with (refine wpList_load_row rfl 279 _ rfl 10 rfl ty scrs fr _ hg0 Tryz.underlying279 rfl (by kernel_rfl) ?_)
  refine wp_loop_rounds 1 ?_
  rw [rounds_succ]
  go_wp2
  have c0 : (w.alloc (.cells #[.int .i32 65, .int .i32 383] 278)).cell? ⟨w.heap.size, 1, none⟩ = some (.int .i32 383) := by rw [World.cell?_alloc_mark]; rfl
  have hb0 : Below w.heap.size w (w.alloc (.cells #[.int .i32 65, .int .i32 383] 278)) := Below.one _ _
  have hlt0 : w.heap.size < (w.alloc (.cells #[.int .i32 65, .int .i32 383] 278)).heap.size := by simp
  generalize w.alloc (.cells #[.int .i32 65, .int .i32 383] 278) = w1 at *
  go_loopw [7] (fun v wr => ∃ (n : Nat) (r : Int), v = .int .i32 r ∧ 65 ≤ r ∧ r ≤ 321 ∧ Hid (letF a b n r = some c) ∧ Below w1.heap.size w1 wr) (fun v _ => 400 - (intOf v).toNat)
  case atStart => exact ⟨256, 65, rfl, by omega, by omega, HX, Below.refl _ _⟩
  case round =>
    clear HX
    obtain ⟨n, r, rfl, hr0, hr1, HR, hb⟩ := hrel
    obtain ⟨n, rfl⟩ : ∃ k, n = k + 1 := by cases n with
      | zero => cases unhide HR
      | succ n => exact ⟨n, rfl⟩
    have hst := unhide HR
    rw [letF] at hst
    cases hp : prT r with
    | none => rw [hp] at hst; cases hst
    | some q =>
      obtain ⟨x, m, ok⟩ := q
      rw [hp] at hst
      dsimp only at hst
      have hle := prT_le hp
      have hzl : r ≤ 383 := by omega
      have cc : wr.cell? ⟨w.heap.size, 1, none⟩ = some (.int .i32 383) := (hb.cell (by exact hlt0)).trans c0
      have HA := hide (prT_any r x m ok wr hp)
      have HB0 := hide hb0
      clear HR hp hb0
      have fin : ∀ {w2 : World}, Below wr.heap.size wr w2 → Below w1.heap.size w1 w2 := fun b2 => hb.trans (b2.mono hb.size)
      have out : ∀ {w2 : World}, Below w1.heap.size w1 w2 → Below w.heap.size w w2 := fun b2 => (unhide HB0).trans (b2.mono (unhide HB0).size)
      by_cases hok : ok = true
      · subst hok
        by_cases hx : x = a
        · by_cases hm : m = b
          · rw [if_pos ⟨rfl, hx, hm⟩] at hst
            have HE := hide (Option.some.inj hst)
            have xz : (x == a) = true := by simpa using hx
            have mz : (m == b) = true := by simpa using hm
            clear hst hx hm
            go_wp2_with (go_at_call 219; refine (unhide HA).mono ?_; rintro e w2 ⟨rfl, b2⟩)
            go_ret
            exact ⟨ret_int (unhide HE), out (fin b2)⟩
          · rw [if_neg (by intro e; exact hm e.2.2)] at hst
            have HE := hide hst
            have xz : (x == a) = true := by simpa using hx
            have mz : (m == b) = false := by simpa using hm
            clear hst hx hm
            go_wp2_with (go_at_call 219; refine (unhide HA).mono ?_; rintro e w2 ⟨rfl, b2⟩)
            go_roundw
            case rel => exact ⟨n, r + 1, by go_num, by omega, by omega, HE, fin b2⟩
            case measure => simp [intOf]; omega
        · rw [if_neg (by intro e; exact hx e.2.1)] at hst
          have HE := hide hst
          have xz : (x == a) = false := by simpa using hx
          clear hst hx
          go_wp2_with (go_at_call 219; refine (unhide HA).mono ?_; rintro e w2 ⟨rfl, b2⟩)
          go_roundw
          case rel => exact ⟨n, r + 1, by go_num, by omega, by omega, HE, fin b2⟩
          case measure => simp [intOf]; omega
      · rw [if_neg (by intro e; exact hok e.1)] at hst
        have HE := hide hst
        obtain rfl : ok = false := by simpa using hok
        clear hst hok
        go_wp2_with (go_at_call 219; refine (unhide HA).mono ?_; rintro e w2 ⟨rfl, b2⟩)
        go_roundw
        case rel => exact ⟨n, r + 1, by go_num, by omega, by omega, HE, fin b2⟩
        case measure => simp [intOf]; omega
end Go.Proofs.YtefobkgifigclaaGreatDoor
/- compose.pair: two that join, two of which the second is no mark, a letter and a mark that make a letter (the map still empty). -/
namespace Go.Proofs.YtefobkgifigclaaGreatDoor
set_option maxRecDepth 100000
open Go.RowKit

theorem arrK : Go.WideMaps.ArrKey Tryz.prog 265 21 2 := ⟨Tryz.underlying265, by kernel_rfl, by kernel_rfl, by kernel_rfl⟩
theorem lawK : Go.Maps.Keyed Tryz.prog 265 := Go.Maps.Keyed.of_law arrK.law
theorem sizeK : ∃ m, Tryz.prog.types.size = m + 1 := ⟨Tryz.prog.types.size - 1, by kernel_rfl⟩
def keyL (a b : Int) : Lit := .string (keyBytes [.int .i32 a, .int .i32 b])
theorem keyK (a b : Int) (wa : (Lit.int .i32 a).wf = true) (wb : (Lit.int .i32 b).wf = true) : keyOf Tryz.prog 265 (.agg #[.int .i32 a, .int .i32 b]) = some (keyL a b) :=
  Go.WideMaps.keyOf_pair arrK Tryz.underlying21 sizeK wa wb
theorem zeroK (w : World) : (zeroValue 21).run Tryz.prog w = .ok (.int .i32 0) w := by kernel_rfl
/-- The map of what was found, empty still, in block mb. -/
def Mt (mb : Nat) (w : World) : Prop := w.ownsMap (H := Unit) Tryz.prog 265 (plainElem Tryz.prog 21) mb 0 (.map [])
theorem Mt.below {mb : Nat} {w w2 : World} (h : Mt mb w) (hb : Below w.heap.size w w2) : Mt mb w2 :=
  World.ownsMap.kept h (row := none) ⟨hb.os, hb.tape, hb.output, hb.size, fun k hk _ => hb.block k hk⟩ (by simp)
theorem letF_ge {a b : Int} : ∀ {n : Nat} {r c : Int}, letF a b n r = some c → r ≤ c ∧ c ≤ 320
  | 0, _, _, h => by cases h
  | n + 1, r, c, h => by
    rw [letF] at h
    split at h
    · cases h
    · rename_i x m ok hp
      have hle := prT_le hp
      split at h
      · have := Option.some.inj h
        omega
      · have := letF_ge h
        omega
theorem wf32 {x : Int} (h0 : -2147483648 ≤ x) (h1 : x ≤ 2147483647) : (Lit.int .i32 x).wf = true := by
  have e1 : IntKind.i32.min = -2147483648 := rfl
  have e2 : IntKind.i32.max = 2147483647 := rfl
  simp [Lit.wf]; omega

set_option maxHeartbeats 1000000 in
theorem pairc_join (mv : Value) (a b : Int) (w : World) (hL : L12 w) (hj : jB a b = true) :
    Calls Tryz.prog 197 #[mv, .int .i32 a, .int .i32 b] w fun e w' => e = .returned (.tuple #[.int .i32 (jR a b), .bool true]) ∧ Below w.heap.size w w' := by
  have HJ := hide (join_any a b w hL.hp)
  rw [hj] at HJ
  clear hj
  go_enter Tryz.func197, Tryz.ntmps197
  go_wp2_with (go_at_call 226; refine (unhide HJ).mono ?_; rintro e w1 ⟨rfl, g1⟩)
  go_ret2
  exact ⟨rfl, g1.below⟩
set_option maxHeartbeats 1000000 in
theorem pairc_no (mv : Value) (a b : Int) (w : World) (hL : L12 w) (hj : jB a b = false) (hc : cls b = 0) :
    Calls Tryz.prog 197 #[mv, .int .i32 a, .int .i32 b] w fun e w' => e = .returned (.tuple #[.int .i32 0, .bool false]) ∧ Below w.heap.size w w' := by
  have HJ := hide (join_any a b w hL.hp)
  have HC := hide (class_any b)
  rw [hj] at HJ
  rw [hc] at HC
  clear hj hc
  generalize jR a b = q at *
  go_enter Tryz.func197, Tryz.ntmps197
  go_wp2_with (first
    | (go_at_call 196; refine (unhide HC _).mono ?_; rintro e w2 ⟨rfl, g2⟩)
    | (go_at_call 226; refine (unhide HJ).mono ?_; rintro e w1 ⟨rfl, g1⟩))
  go_ret2
  exact ⟨rfl, (g1.trans g2).below⟩
set_option maxHeartbeats 4000000 in
theorem pairc_new (mb : Nat) (a b c : Int) (w : World) (hL : L12 w) (h0 : 65 ≤ a) (h1 : a ≤ 383) (hb0 : -2147483648 ≤ b) (hb1 : b ≤ 2147483647) (hj : jB a b = false) (hc : ¬ cls b = 0) (hx : letF a b 256 65 = some c) (hm : Mt mb w) :
    Calls Tryz.prog 197 #[.map (some mb), .int .i32 a, .int .i32 b] w fun e w' => e = .returned (.tuple #[.int .i32 c, .bool true]) ∧ w.grownBy w' (some mb) ∧ ∃ es ck, w'.heap[mb]? = some (.map es ck) := by
  have HJ := hide (join_any a b w hL.hp)
  have HC := hide (class_any b)
  have HLT := hide (fun W hW => letter_any a b c W hW h0 h1 hx)
  have hge := letF_ge hx
  have hkey := keyK a b (wf32 (by omega) (by omega)) (wf32 hb0 hb1)
  have hhas : Maps.has (.map [] : DataW Unit) (keyL a b) = false := rfl
  have hwc : (Lit.int .i32 c).wf = true := wf32 (by omega) (by omega)
  have HKEY := hide hkey
  have HWC := hide hwc
  have hcn : (c != 0) = true := by simp; omega
  rw [hj] at HJ
  clear hj hx hkey hwc hge
  generalize keyL a b = kl at *
  generalize jR a b = q at *
  obtain ⟨K, hK⟩ : ∃ K, K = cls b := ⟨_, rfl⟩
  rw [← hK] at HC hc
  clear hK
  have hcz : (K == 0) = false := by simpa using hc
  clear hc
  have HM := hide hm
  have HL := hide hL
  clear hm hL
  go_enter Tryz.func197, Tryz.ntmps197
  go_wp2_with (first
    | (at_mapUpdate; refine wpList_mapUpdate_own _ rfl _ _ _ 241 rfl 265 21 lawK Tryz.underlying241 _ mb 0 _ rfl (unhide HM4) (by unfold maxLen; omega) _ _ _ rfl rfl (unhide HKEY) _ [] (plainElem_int Tryz.underlying21 (unhide HWC)) ?_; intro w5 hown5 hgrow5)
    | (go_at_call 227; refine (unhide HLT _ (unhide HL3)).mono ?_; rintro e w4 ⟨rfl, b4⟩; have HM4 := hide ((unhide HM3).below b4); have k4 := (b4.cell (by exact cell_lt kx)).trans kx; have k5 := (b4.cell (by exact cell_lt ky)).trans ky)
    | (at_lookup; refine wpList_lookup_own_ok_int _ rfl _ _ 241 rfl 265 21 .i32 lawK Tryz.underlying241 Tryz.underlying21 (zeroK _) mb 0 _ rfl (unhide HM3) _ _ rfl (unhide HKEY) ?_; intro c0 hat hwc0; rw [hhas])
    | (go_at_call 196; refine (unhide HC _).mono ?_; rintro e w2 ⟨rfl, g2⟩; have b2 := (g1.trans g2).below; have HM3 := hide ((unhide HM).below ((g1.trans g2).alloc (.cells #[.int .i32 a, .int .i32 b] 265)).below); have HL3 := hide ((unhide HL).keep ((g1.trans g2).alloc (.cells #[.int .i32 a, .int .i32 b] 265)).below); have kx : (w2.alloc (.cells #[.int .i32 a, .int .i32 b] 265)).cell? ⟨w2.heap.size, 0, none⟩ = some (.int .i32 a) := (by rw [World.cell?_alloc_mark]; rfl); have ky : (w2.alloc (.cells #[.int .i32 a, .int .i32 b] 265)).cell? ⟨w2.heap.size, 1, none⟩ = some (.int .i32 b) := (by rw [World.cell?_alloc_mark]; rfl))
    | (go_at_call 226; refine (unhide HJ).mono ?_; rintro e w1 ⟨rfl, g1⟩))
  go_ret2
  have b3 : Below w.heap.size w w4 := ((g1.trans g2).alloc (.cells #[.int .i32 a, .int .i32 b] 265)).below.trans (b4.mono ((g1.trans g2).alloc (.cells #[.int .i32 a, .int .i32 b] 265)).size)
  obtain ⟨es, ck, hes, _⟩ := hown5
  refine ⟨rfl, ⟨hgrow5.os.trans b3.os, hgrow5.tape.trans b3.tape, hgrow5.output.trans b3.output, Nat.le_trans b3.size hgrow5.size, fun k hk hne => ?_⟩, es, ck, hes⟩
  rw [hgrow5.block k (Nat.lt_of_lt_of_le hk b3.size) hne]
  exact b3.block k hk

/-- compose.All, plainly: h the head, behind it l. -/
def letP (a b : Int) : Int := (letF a b 256 65).getD 0
def cgo : Int → List Int → List Int
  | h, [] => [h]
  | h, r :: l => if jB h r then cgo (jR h r) l else if cls r = 0 then h :: cgo r l else cgo (letP h r) l
def cmpL : List Int → List Int
  | [] => []
  | r :: l => cgo r l
/-- May it be told here? e: is the map still empty? -/
def cok : Bool → Int → List Int → Bool
  | _, _, [] => true
  | e, h, r :: l => if jB h r then cok e (jR h r) l else if cls r = 0 then cok e r l else e && decide (65 ≤ h ∧ h ≤ 383 ∧ -2147483648 ≤ r ∧ r ≤ 2147483647) && (letF h r 256 65).isSome && cok false (letP h r) l
def cmpOk : List Int → Bool
  | [] => true
  | r :: l => decide (cls r = 0) && cok true r l
/-- A map in block mb, empty still where e says so. -/
def Mp (e : Bool) (mb : Nat) (w : World) : Prop := (∃ es ck, w.heap[mb]? = some (.map es ck)) ∧ (e = true → Mt mb w)
theorem Mp.below {e : Bool} {mb : Nat} {w w2 : World} (h : Mp e mb w) (hb : Below w.heap.size w w2) : Mp e mb w2 := by
  obtain ⟨⟨es, ck, h1⟩, h2⟩ := h
  exact ⟨⟨es, ck, kept_block h1 hb⟩, fun he => (h2 he).below hb⟩
theorem Mp.ne {e : Bool} {mb : Nat} {w : World} {B : Nat} {v : Value} {l : List Int} (h : Mp e mb w) (hr : Rn B v l w) : v.ownBlock ≠ some mb := by
  obtain ⟨⟨es, ck, h1⟩, _⟩ := h
  rcases hr.2 with ⟨hv, _⟩ | ⟨g, cap, cur, hv, _, hg, _⟩
  · rw [hv]; simp [Value.ownBlock]
  · rw [hv]
    intro hne
    simp [Value.ownBlock] at hne
    rw [hne, h1] at hg
    cases hg
theorem Mp.grown {e : Bool} {mb : Nat} {w w2 : World} {row : Option Nat} (h : Mp e mb w) (hg : w.grownBy w2 row) (hne : row ≠ some mb) : Mp e mb w2 := by
  obtain ⟨⟨es, ck, h1⟩, h2⟩ := h
  refine ⟨⟨es, ck, ?_⟩, fun he => World.ownsMap.kept (h2 he) hg (fun e => hne e.symm)⟩
  rw [hg.block mb (Array.getElem?_eq_some_iff.1 h1).1 (fun e => hne e.symm)]
  exact h1
end Go.Proofs.YtefobkgifigclaaGreatDoor
/- compose.All, of characters that are put together without a search that gives up. -/
namespace Go.Proofs.YtefobkgifigclaaGreatDoor
set_option maxRecDepth 100000
open Go.RowKit

/-- How All stands behind k characters. -/
def Cs (B mb k : Nat) (l : List Int) (v hd : Value) (wr : World) : Prop :=
  (k = 0 ∧ hd = .int .i64 (-1) ∧ Rn B v [] wr ∧ Mp true mb wr) ∨
  (∃ (e : Bool) (t : List Int) (h : Int), t.length + 1 ≤ k ∧ hd = .int .i64 (t.length : Int) ∧ Rn B v (t ++ [h]) wr ∧ Mp e mb wr ∧ Hid (cmpL l = t ++ cgo h (l.drop k)) ∧ Hid (cok e h (l.drop k) = true))

set_option maxHeartbeats 800000 in
theorem call_empty (a : Option Addr) (cap : Nat) (w : World) :
    Calls Tryz.prog 160 #[.slice a 0 cap] w fun e w' => ∃ v, e = .returned v ∧ Rn w.heap.size v [] w' ∧ Below w.heap.size w w' := by
  obtain ⟨i0, hi, hz0, hz1, hz2⟩ := info_parts elem_info
  have hmm := @run_makeMap Tryz.prog
  go_enter Tryz.func160, Tryz.ntmps160
  go_wp2
  go_step3
  go_wp2_with (refine wpList_make_own _ rfl _ _ 131 rfl w.heap.size 21 i0 (.int .i32 0) 1 Tryz.underlying131 hi hz0 hz1 .i64 .i64 _ 0 rfl rfl rfl (by rw [hz2]; omega) (Nat.zero_le _) (Nat.le_refl _) ?_; intro w1 hown1 hgrow1)
  go_step3
  go_wp2
  refine wp_loop_rounds 1 ?_
  rw [rounds_succ]
  have HB : Below w.heap.size w w1 := (Below.refl _ _).grown hgrow1 (Nat.le_refl _) (by intro k h; cases h)
  have HO := hide hown1
  clear hown1 hgrow1
  go_wp2
  (try rw [Exit.noGoto_ret])
  go_ret
  exact ⟨_, rfl, (unhide HO).alloc _, HB.alloc HB.size _⟩

set_option maxHeartbeats 6400000 in
theorem call_some (b off cap : Nat) (l : List Int) (w : World) (hL : L12 w) (hlen : l.length ≤ 20000) (h0 : 0 < l.length) (hok : cmpOk l = true)
    (hcell : ∀ i, i < l.length → w.cell? ⟨b, off + i, none⟩ = some (.int .i32 (l.getD i 0))) :
    Calls Tryz.prog 160 #[.slice (some ⟨b, off, none⟩) l.length cap] w fun e w' => ∃ v, e = .returned v ∧ Rn w.heap.size v (cmpL l) w' ∧ Below w.heap.size w w' := by
  obtain ⟨i0, hi, hz0, hz1, hz2⟩ := info_parts elem_info
  have hmm := @run_makeMap Tryz.prog
  have HC := hide hcell
  have HLY := hide hL
  have HOK := hide hok
  have hml : l.length ≤ maxLen := by unfold maxLen; omega
  clear hcell hL hok
  go_enter Tryz.func160, Tryz.ntmps160
  go_wp2
  go_step3
  go_wp2_with (refine wpList_make_own _ rfl _ _ 131 rfl w.heap.size 21 i0 (.int .i32 0) 1 Tryz.underlying131 hi hz0 hz1 .i64 .i64 _ l.length rfl rfl rfl (by rw [hz2]; omega) hml (Nat.le_refl _) ?_; intro w1 hown1 hgrow1)
  go_step3
  go_wp2
  have HB : Below w.heap.size w w1 := (Below.refl _ _).grown hgrow1 (Nat.le_refl _) (by intro k h; cases h)
  have HO : Hid (Rn w.heap.size (.slice (some ⟨w.heap.size, 0, none⟩) 0 l.length) [] (w1.alloc (.map #[] 0))) := World.ownsRow.alloc hown1 _
  have HM : Hid (Mp true w1.heap.size (w1.alloc (.map #[] 0))) := ⟨⟨#[], 0, heap_new w1 _⟩, fun _ => World.ownsMap_made w1 _ _ _⟩
  have HB1 : Below w.heap.size w (w1.alloc (.map #[] 0)) := HB.alloc HB.size _
  have hmw : w.heap.size ≤ w1.heap.size := HB.size
  generalize w1.heap.size = mb at *
  generalize w1.alloc (.map #[] 0) = w2 at *
  clear hown1 hgrow1 HB
  go_loopw [3, 5, 6, 18] (fun v hd mo i wr => ∃ k : Nat, k ≤ l.length ∧ i = .int .i64 (k : Int) ∧ mo = .int .i64 0 ∧ Cs w.heap.size mb k l v hd wr ∧ Below w.heap.size w wr) (fun _ _ _ i _ => l.length - (intOf i).toNat)
  case atStart => exact ⟨0, Nat.zero_le _, rfl, rfl, .inl ⟨rfl, rfl, unhide HO, unhide HM⟩, HB1⟩
  case round =>
    clear HO HM HB1
    obtain ⟨k, hk, rfl, rfl, hcs, hb⟩ := hrel
    have hsz := hb.size
    by_cases hlt : k < l.length
    · have hzl : (k : Int) < (l.length : Int) := by omega
      have hz0' : (0 : Int) ≤ (k : Int) := by omega
      have g1 := unhide HC k hlt
      have k1 : wr.cell? ⟨b, off + k, none⟩ = some (.int .i32 (l.getD k 0)) := (hb.cell (by exact cell_lt g1)).trans g1
      have hdr := drop_getD12 l 0 k hlt
      have HX := hide (class_any (l.getD k 0))
      clear g1
      rcases hcs with ⟨hk0, rfl, ho, hm⟩ | ⟨e, t, h, htk, rfl, ho, hm, HE, HK⟩
      · -- the first one
        have hcl : cls (l.getD k 0) = 0 ∧ cok true (l.getD k 0) (l.drop (k + 1)) = true ∧ cmpL l = cgo (l.getD k 0) (l.drop (k + 1)) := by
          have h2 := unhide HOK
          rw [show l.drop k = l by rw [hk0]; rfl] at hdr
          rw [hdr] at h2
          simp only [cmpOk, Bool.and_eq_true, decide_eq_true_eq] at h2
          refine ⟨h2.1, h2.2, ?_⟩
          conv => lhs; rw [hdr]
          rfl
        obtain ⟨hc0, hck, hce⟩ := hcl
        have HCK := hide hck
        have HCE := hide hce
        clear hck hce hdr
        rw [hc0] at HX
        generalize l.getD k 0 = x at *
        have HK0 := hide hk0
        clear hk0
        obtain ⟨xa, xc, hv⟩ := ho.shape
        simp only [List.length_nil] at hv
        subst hv
        have HO := hide ho
        have HM := hide hm
        clear ho hm hc0
        have hm1 : 0 + 1 ≤ maxLen := by unfold maxLen; omega
        have hm2 : (0 + 1) * 4 ≤ 140737488355328 := by omega
        go_wp2_with (first
          | (at_builtin; refine wpList_append_lies _ rfl _ _ 131 rfl w.heap.size 21 i0 _ 1 4 Tryz.underlying131 hi hz0 hz1 hz2 rfl (by omega) _ 0 _ rfl (World.ownsRow.alloc (Rn.own (N := 0) (l := []) rfl (unhide HO3)) _) ⟨w3.heap.size, 0, none⟩ 1 1 [.int .i32 x] rfl rfl (World.news_of_block (cs := #[.int .i32 x]) (t := 21) (fr := (0, 0)) (heap_new w3 _)) (by simp [Value.oneCell']) (by omega) hm1 hm2 (by simp; omega) (w3.heap.size + 1) (by simp) ?_; intro g9 cap9 w9 hown9 hgrow9 hat9 hlt9)
          | (go_at_call 196; refine (unhide HX _).mono ?_; rintro e w3 ⟨rfl, g3⟩; have HO3 := hide ((unhide HO).below g3.below); have HM3 := hide ((unhide HM).below g3.below); have hb3 := hb.trans (g3.below.mono hsz); have hs3 := hb3.size))
        go_roundw
        case rel =>
          refine ⟨k + 1, by omega, by go_num, rfl, .inr ⟨true, [], x, by simp, rfl, ?_, ?_, HCE, HCK⟩, (hb3.alloc (by omega) _).trans (below_own hgrow9 (by simp; omega) (own_block (unhide HO3)))⟩
          · exact Rn.push (es := []) rfl hown9
          · exact ((unhide HM3).below (Below.one _ _)).grown hgrow9 ((unhide HM3).ne (unhide HO3))
        case measure => simp [intOf]; omega
      · have hst : cmpL l = t ++ cgo h (l.getD k 0 :: l.drop (k + 1)) ∧ cok e h (l.getD k 0 :: l.drop (k + 1)) = true := by
          rw [← hdr]; exact ⟨unhide HE, unhide HK⟩
        clear HE HK hdr
        obtain ⟨g, c, hv, hBg, hgs⟩ := ho.held (by simp)
        obtain ⟨N, hN⟩ : ∃ N, N = (t ++ [h]).length := ⟨_, rfl⟩
        rw [← hN] at hv
        have hN2 : N = t.length + 1 := by rw [hN]; simp
        obtain ⟨m, hm'⟩ : ∃ m, m = t.length := ⟨_, rfl⟩
        subst hv
        have c1 := ho.last
        rw [← hm'] at c1
        have fz : wr.frozen? ⟨g, m, none⟩ = false := ho.free hN m
        have HO := hide ho
        have HM := hide hm
        rw [← hm'] at htk
        have e0 : (t.length : Int) = (m : Int) := by rw [hm']
        rw [e0]
        have e3 : (m : Int) < (N : Int) := by omega
        have e4 : (0 : Int) ≤ (m : Int) := by omega
        have e5 : (m : Int) ≥ 0 := by omega
        have HN := hide hN
        have HN2 := hide hN2
        have HMM := hide hm'
        have hmN : N ≤ m + 1 := by omega
        have hmN2 : m + 1 ≤ N := by omega
        have hNl : N ≤ l.length := by omega
        clear hN hN2 hm' ho hm e0
        have HL1 := hide ((unhide HLY).keep hb)
        generalize l.getD k 0 = x at *
        obtain ⟨R, hR⟩ : ∃ R, R = l.drop (k + 1) := ⟨_, rfl⟩
        rw [← hR] at hst
        have HRR := hide hR
        clear hR
        obtain ⟨hst1, hst2⟩ := hst
        rw [cgo] at hst1
        rw [cok] at hst2
        cases hj : jB h x
        · rw [hj] at hst1 hst2
          simp only [Bool.false_eq_true, if_false] at hst1 hst2
          by_cases hc : cls x = 0
          · -- one more head
            rw [if_pos hc] at hst1 hst2
            have HP := hide (fun mv W hW => pairc_no mv h x W hW hj hc)
            rw [hc] at HX
            have HCE : Hid (cmpL l = (t ++ [h]) ++ cgo x R) := by show _ = _; rw [hst1]; simp
            have HCK := hide hst2
            clear hst1 hst2 hj hc
            have hm1 : N + 1 ≤ maxLen := by unfold maxLen; omega
            have hm2 : (N + 1) * 4 ≤ 140737488355328 := by omega
            have e6 : IntKind.i64.wrap ((N : Int) + 1 - 1) = (N : Int) := by rw [IntKind.wrap_i64]; omega
            go_wp2_with (first
              | (at_builtin; refine wpList_append_lies _ rfl _ _ 131 rfl w.heap.size 21 i0 _ 1 4 Tryz.underlying131 hi hz0 hz1 hz2 rfl (by omega) _ N _ rfl (World.ownsRow.alloc (Rn.own (unhide HN) (unhide HO4)) _) ⟨w4.heap.size, 0, none⟩ 1 1 [.int .i32 x] rfl rfl (World.news_of_block (cs := #[.int .i32 x]) (t := 21) (fr := (0, 0)) (heap_new w4 _)) (by simp [Value.oneCell']) (by omega) hm1 hm2 (by simp; omega) (w4.heap.size + 1) (by simp) ?_; intro g9 cap9 w9 hown9 hgrow9 hat9 hlt9)
              | (go_at_call 197; refine (unhide HP _ _ (unhide HL3)).mono ?_; rintro e w4 ⟨rfl, b4⟩; have HO4 := hide ((unhide HO3).below b4); have HM4 := hide ((unhide HM3).below b4); have hb4 := hb3.trans (b4.mono hs3); have hs4 := hb4.size)
              | (go_at_call 196; refine (unhide HX _).mono ?_; rintro e w3 ⟨rfl, g3⟩; have HO3 := hide ((unhide HO).below g3.below); have HM3 := hide ((unhide HM).below g3.below); have hb3 := hb.trans (g3.below.mono hsz); have hs3 := hb3.size; have c3 := g3.cell c1; have HL3 := hide ((unhide HL1).keep g3.below)))
            go_roundw
            case rel =>
              refine ⟨k + 1, by omega, by go_num, rfl, .inr ⟨e, t ++ [h], x, ?_, ?_, Rn.push (unhide HN) hown9, ?_, by rw [← unhide HRR]; exact HCE, by rw [← unhide HRR]; exact HCK⟩, (hb4.alloc (by omega) _).trans (below_own hgrow9 (by simp; omega) (own_block (Rn.own (unhide HN) (unhide HO4))))⟩
              · rw [← unhide HN]; omega
              · rw [← unhide HN]
              · exact ((unhide HM4).below (Below.one _ _)).grown hgrow9 ((unhide HM4).ne (unhide HO4))
            case measure => simp [intOf]; omega
          · -- a letter and a mark
            rw [if_neg hc] at hst1 hst2
            simp only [Bool.and_eq_true, decide_eq_true_eq] at hst2
            obtain ⟨⟨⟨he, hr1, hr2, hr3, hr4⟩, hsome⟩, hrest⟩ := hst2
            subst he
            obtain ⟨z, hz⟩ := Option.isSome_iff_exists.1 hsome
            have hzP : letP h x = z := by unfold letP; rw [hz]; rfl
            rw [hzP] at hst1 hrest
            have HP := hide (fun W hW hm => pairc_new mb h x z W hW hr1 hr2 hr3 hr4 hj hc hz hm)
            have HCE := hide hst1
            have HCK := hide hrest
            obtain ⟨K, hK⟩ : ∃ K, K = cls x := ⟨_, rfl⟩
            rw [← hK] at HX
            clear hst1 hrest hj hc hz hzP hsome hK
            have HMW : Hid (∀ g', some mb = some g' → w.heap.size ≤ g') := fun g' h' => by cases h'; exact hmw
            go_wp2_with (first
              | (go_at_call 197; refine (unhide HP _ (unhide HL3) ((unhide HM3).2 rfl)).mono ?_; rintro e w4 ⟨rfl, b4, hm4⟩; have HO4 := hide (Rn.kept (unhide HO3) b4 ((unhide HM3).ne (unhide HO3))); have hb4 := hb3.trans (below_own b4 hs3 (unhide HMW)); have hs4 := hb4.size; have c4 : w4.cell? ⟨g, m, none⟩ = some (.int .i32 h) := (by have := (unhide HO4).last; rw [← unhide HMM] at this; exact this); have fz4 : w4.frozen? ⟨g, m, none⟩ = false := (unhide HO4).free (unhide HN) m)
              | (go_at_call 196; refine (unhide HX _).mono ?_; rintro e w3 ⟨rfl, g3⟩; have HO3 := hide ((unhide HO).below g3.below); have HM3 := hide ((unhide HM).below g3.below); have hb3 := hb.trans (g3.below.mono hsz); have hs3 := hb3.size; have c3 := g3.cell c1; have HL3 := hide ((unhide HL1).keep g3.below)))
            go_roundw
            case rel =>
              obtain ⟨p1, p2⟩ := Rn.put (z := z) (unhide HN2) (unhide HMM) (unhide HO4)
              refine ⟨k + 1, by omega, by go_num, rfl, .inr ⟨false, t, z, by rw [← unhide HMM]; omega, by rw [← unhide HMM], p1, ?_, by rw [← unhide HRR]; exact HCE, by rw [← unhide HRR]; exact HCK⟩, hb4.trans (below_own p2 (by omega) (by intro g' h'; cases h'; exact hBg))⟩
              have hM4 : Mp false mb w4 := ⟨hm4, fun h => by cases h⟩
              exact hM4.grown p2 (hM4.ne (unhide HO4))
            case measure => simp [intOf]; omega
        · -- two that join
          rw [hj] at hst1 hst2
          simp only [if_true] at hst1 hst2
          have HP := hide (fun mv W hW => pairc_join mv h x W hW hj)
          have HCE := hide hst1
          have HCK := hide hst2
          obtain ⟨K, hK⟩ : ∃ K, K = cls x := ⟨_, rfl⟩
          rw [← hK] at HX
          clear hst1 hst2 hj hK
          generalize jR h x = z at *
          go_wp2_with (first
            | (go_at_call 197; refine (unhide HP _ _ (unhide HL3)).mono ?_; rintro e w4 ⟨rfl, b4⟩; have HO4 := hide ((unhide HO3).below b4); have HM4 := hide ((unhide HM3).below b4); have hb4 := hb3.trans (b4.mono hs3); have hs4 := hb4.size; have c4 : w4.cell? ⟨g, m, none⟩ = some (.int .i32 h) := (by have := (unhide HO4).last; rw [← unhide HMM] at this; exact this); have fz4 : w4.frozen? ⟨g, m, none⟩ = false := (unhide HO4).free (unhide HN) m)
            | (go_at_call 196; refine (unhide HX _).mono ?_; rintro e w3 ⟨rfl, g3⟩; have HO3 := hide ((unhide HO).below g3.below); have HM3 := hide ((unhide HM).below g3.below); have hb3 := hb.trans (g3.below.mono hsz); have hs3 := hb3.size; have c3 := g3.cell c1; have HL3 := hide ((unhide HL1).keep g3.below)))
          go_roundw
          case rel =>
            obtain ⟨p1, p2⟩ := Rn.put (z := z) (unhide HN2) (unhide HMM) (unhide HO4)
            refine ⟨k + 1, by omega, by go_num, rfl, .inr ⟨e, t, z, by rw [← unhide HMM]; omega, by rw [← unhide HMM], p1, ?_, by rw [← unhide HRR]; exact HCE, by rw [← unhide HRR]; exact HCK⟩, hb4.trans (below_own p2 (by omega) (by intro g' h'; cases h'; exact hBg))⟩
            exact (unhide HM4).grown p2 ((unhide HM4).ne (unhide HO4))
          case measure => simp [intOf]; omega
    · have hzl : ¬ (k : Int) < (l.length : Int) := by omega
      obtain rfl : k = l.length := by omega
      rcases hcs with ⟨h, _⟩ | ⟨e, t, h, _, rfl, ho, _, HE, _⟩
      · omega
      · have hE := unhide HE
        rw [List.drop_length] at hE
        have hE2 : t ++ [h] = cmpL l := hE.symm
        obtain ⟨xa, xc, hv⟩ := ho.shape
        have ho2 := ho
        rw [hE2] at ho2
        obtain ⟨N, hN⟩ : ∃ N, N = (t ++ [h]).length := ⟨_, rfl⟩
        rw [← hN] at hv
        clear hN ho HE hE hE2
        have HO := hide ho2
        clear ho2
        subst hv
        go_wp2
        (try rw [Exit.noGoto_ret])
        go_ret
        exact ⟨.slice xa N xc, rfl, unhide HO, hb⟩
theorem call_any12 (v : Value) (l : List Int) (w : World) (hL : L12 w) (hlen : l.length ≤ 20000) (hok : cmpOk l = true) (hR : Row w v l) : Calls Tryz.prog 160 #[v] w fun e w' => ∃ v, e = .returned v ∧ Rn w.heap.size v (cmpL l) w' ∧ Below w.heap.size w w' := by
  obtain ⟨a, c, rfl, h1⟩ := hR
  by_cases h0 : l.length = 0
  · obtain rfl : l = [] := List.eq_nil_of_length_eq_zero h0
    exact call_empty a c w
  · obtain ⟨b1, o1, rfl, k1⟩ := h1 (by omega)
    exact call_some b1 o1 c l w hL hlen (by omega) hok k1
end Go.Proofs.YtefobkgifigclaaGreatDoor
