/- Contracts of the landed blanks: inside, marked, Space, Hyphen, firm, words, framed. -/
import Derived.Test.YtdlbdfndnjdeeaaRPie11
import Derived.Test.YtdlbdfndnjdeeaaSame2
import Derived.Test.YtdlbdfndnjdeeaaCls
import Derived.Test.YtdlbdfndnjdeeaaCt11
import Derived.Test.YtdlbdfndnjdeeaaFl11
namespace Go.Proofs.Ytdlbdfndnjdeeaa
open Go.RowKit

def Ly (_ : World) : Prop := True
theorem Ly.keep {w w2 : World} (_ : Ly w) (_ : Below w.heap.size w w2) : Ly w2 := trivial

set_option maxHeartbeats 400000 in
theorem bins_any (a : Option Addr) (n cap : Nat) (i : Int) (w : World) : Calls Try.prog 32 #[.slice a n cap, .int .i64 i] w fun e w' => e = .returned (.bool (decide (0 ≤ i ∧ i < (n : Int)))) ∧ w' = w := by
  by_cases h0 : 0 ≤ i
  · by_cases h1 : i < (n : Int)
    · have HE : Hid (decide (0 ≤ i ∧ i < (n : Int)) = true) := by show _ = _; simp [h0, h1]
      generalize decide (0 ≤ i ∧ i < (n : Int)) = z at *
      go_enter Try.func32, Try.ntmps32
      go_wp2
      go_ret
      exact ⟨ret_bool (unhide HE).symm, rfl⟩
    · have HE : Hid (decide (0 ≤ i ∧ i < (n : Int)) = false) := by show _ = _; simp [h1]
      generalize decide (0 ≤ i ∧ i < (n : Int)) = z at *
      go_enter Try.func32, Try.ntmps32
      go_wp2
      go_ret
      exact ⟨ret_bool (unhide HE).symm, rfl⟩
  · have HE : Hid (decide (0 ≤ i ∧ i < (n : Int)) = false) := by show _ = _; simp [h0]
    generalize decide (0 ≤ i ∧ i < (n : Int)) = z at *
    go_enter Try.func32, Try.ntmps32
    go_wp2
    go_ret
    exact ⟨ret_bool (unhide HE).symm, rfl⟩
theorem ints_new (W : World) (zs : List Int) (cs : Array Value) (T : TypeId) (hcs : cs.toList = zs.map (Value.int .i64)) : Ints (W.alloc (.cells cs T)) (.slice (some ⟨W.heap.size, 0, none⟩) zs.length zs.length) zs := by
  refine ⟨_, _, rfl, fun _ => ⟨W.heap.size, 0, rfl, fun j hj => ?_⟩⟩
  rw [World.cell?_alloc_mark, Nat.zero_add]
  have : cs.toList[j]? = some (.int .i64 (zs.getD j 0)) := by rw [hcs]; simp [List.getD, hj]
  simpa using this
/-- Is x a mark, as the program asks it? -/
theorem ismark (x : Int) (w : World) : Calls Try.prog 23 #[.int .i32 x, .slice (some ⟨w.heap.size, 0, none⟩) 1 1] (w.alloc (.cells #[.int .i64 3] 3)) fun e w' => e = .returned (.bool (mk11 x)) ∧ Below w.heap.size w w' :=
  (is_any x _ [3] _ (ints_new w [3] _ _ rfl) (by decide)).mono fun _ _ ⟨he, hg⟩ => ⟨he.trans (ret_bool (by simp [mk11])), below_new hg.below⟩
theorem fre_mk (l : List Int) (k : Nat) (h : k + 1 < l.length) : fre mk11 (l.drop (k + 1)) = !mk11 (l.getD (k + 1) 0) := by
  rw [fre_drop l k h]; rfl
set_option maxHeartbeats 800000 in
theorem bmk_in (b off cap : Nat) (l : List Int) (k : Nat) (w : World) (hlen : l.length ≤ 20000) (hk : k < l.length) (hcell : ∀ i, i < l.length → w.cell? ⟨b, off + i, none⟩ = some (.int .i32 (l.getD i 0))) :
    Calls Try.prog 33 #[.slice (some ⟨b, off, none⟩) l.length cap, .int .i64 (k : Int)] w fun e w' => e = .returned (.bool (!fre mk11 (l.drop (k + 1)))) ∧ Below w.heap.size w w' := by
  by_cases hl : k + 1 = l.length
  · have HF := hide (fre_last l k hl)
    generalize fre mk11 (l.drop (k + 1)) = z at *
    have hz1 : ¬ (k : Int) < (l.length : Int) - 1 := by omega
    go_enter Try.func33, Try.ntmps33
    go_wp2
    go_ret
    exact ⟨ret_bool (by rw [unhide HF]; rfl), Below.refl _ _⟩
  · have HF := hide (fre_mk l k (by omega))
    generalize fre mk11 (l.drop (k + 1)) = z at *
    have c1 := hcell (k + 1) (by omega)
    have HK := hide (ismark (l.getD (k + 1) 0))
    generalize l.getD (k + 1) 0 = x at *
    generalize mk11 x = q at *
    have hz1 : (k : Int) < (l.length : Int) - 1 := by omega
    have hz2 : (k : Int) + 1 < (l.length : Int) := by omega
    have hz3 : (0 : Int) ≤ (k : Int) + 1 := by omega
    go_enter Try.func33, Try.ntmps33
    go_wp2_with (go_at_call 23; refine (unhide HK _).mono ?_; rintro e w1 ⟨rfl, b1⟩)
    go_ret
    exact ⟨ret_bool (by rw [unhide HF]; simp), b1⟩
set_option maxHeartbeats 800000 in
theorem bspace_out (a : Option Addr) (n cap : Nat) (i : Int) (w : World) (hi : ¬ (0 ≤ i ∧ i < (n : Int))) :
    Calls Try.prog 18 #[.slice a n cap, .int .i64 i] w fun e w' => e = .returned (.bool false) ∧ Below w.heap.size w w' := by
  have HI := hide (bins_any a n cap i w)
  rw [decide_eq_false hi] at HI
  go_enter Try.func18, Try.ntmps18
  go_wp2_with (go_at_call 32; refine (unhide HI).mono ?_; rintro e w1 ⟨rfl, rfl⟩)
  go_ret
  exact ⟨rfl, Below.refl _ _⟩
set_option maxHeartbeats 800000 in
theorem bspace_in (b off cap : Nat) (l : List Int) (k : Nat) (w : World) (hlen : l.length ≤ 20000) (hk : k < l.length) (hcell : ∀ i, i < l.length → w.cell? ⟨b, off + i, none⟩ = some (.int .i32 (l.getD i 0))) :
    Calls Try.prog 18 #[.slice (some ⟨b, off, none⟩) l.length cap, .int .i64 (k : Int)] w fun e w' => e = .returned (.bool (sp mk11 (l.getD k 0) (l.drop (k + 1)))) ∧ Below w.heap.size w w' := by
  have HI := hide (bins_any (some ⟨b, off, none⟩) l.length cap (k : Int) w)
  rw [decide_eq_true (by omega)] at HI
  have HL := hide (bmk_in b off cap l k w hlen hk hcell)
  have c1 := hcell k hk
  have hz0 : (0 : Int) ≤ (k : Int) := by omega
  have hz1 : (k : Int) < (l.length : Int) := by omega
  unfold sp
  clear hcell
  generalize fre mk11 (l.drop (k + 1)) = f at *
  generalize l.getD k 0 = x at *
  by_cases hx : x = 32
  · subst hx
    go_enter Try.func18, Try.ntmps18
    go_wp2_with (first
      | (go_at_call 33; refine (unhide HL).mono ?_; rintro e w2 ⟨rfl, b2⟩)
      | (go_at_call 32; refine (unhide HI).mono ?_; rintro e w1 ⟨rfl, rfl⟩))
    go_ret
    exact ⟨ret_bool (by simp), b2⟩
  · have hxf : (x == 32) = false := by simpa using hx
    go_enter Try.func18, Try.ntmps18
    go_wp2_with (go_at_call 32; refine (unhide HI).mono ?_; rintro e w1 ⟨rfl, rfl⟩)
    go_ret
    exact ⟨ret_bool (by simp [hx]), Below.refl _ _⟩
theorem bsp_any (v : Value) (l : List Int) (i : Int) (w : World) (_ : Ly w) (hlen : l.length ≤ 20000) (hR : Row w v l) : Calls Try.prog 18 #[v, .int .i64 i] w fun e w' => e = .returned (.bool (spAt l i)) ∧ Below w.heap.size w w' := by
  obtain ⟨a, cap, rfl, hc⟩ := hR
  unfold spAt
  by_cases h : 0 ≤ i ∧ i < l.length
  · rw [if_pos h]
    obtain ⟨k, rfl⟩ := Int.eq_ofNat_of_zero_le h.1
    obtain ⟨b, off, rfl, hcc⟩ := hc (by omega)
    exact bspace_in b off cap l k w hlen (by omega) hcc
  · rw [if_neg h]
    exact bspace_out a l.length cap i w h
set_option maxHeartbeats 800000 in
theorem bhyphen_out (a : Option Addr) (n cap : Nat) (i : Int) (w : World) (hi : ¬ (0 ≤ i ∧ i < (n : Int))) :
    Calls Try.prog 20 #[.slice a n cap, .int .i64 i] w fun e w' => e = .returned (.bool false) ∧ Below w.heap.size w w' := by
  have HI := hide (bins_any a n cap i w)
  rw [decide_eq_false hi] at HI
  go_enter Try.func20, Try.ntmps20
  go_wp2_with (go_at_call 32; refine (unhide HI).mono ?_; rintro e w1 ⟨rfl, rfl⟩)
  go_ret
  exact ⟨rfl, Below.refl _ _⟩
set_option maxHeartbeats 1600000 in
theorem bhyphen_in (b off cap : Nat) (l : List Int) (k : Nat) (w : World) (hlen : l.length ≤ 20000) (hk : k < l.length) (hcell : ∀ i, i < l.length → w.cell? ⟨b, off + i, none⟩ = some (.int .i32 (l.getD i 0))) :
    Calls Try.prog 20 #[.slice (some ⟨b, off, none⟩) l.length cap, .int .i64 (k : Int)] w fun e w' => e = .returned (.bool (hp mk11 (l.getD k 0) (l.drop (k + 1)))) ∧ Below w.heap.size w w' := by
  have HI := hide (bins_any (some ⟨b, off, none⟩) l.length cap (k : Int) w)
  rw [decide_eq_true (by omega)] at HI
  have HL := hide (bmk_in b off cap l k w hlen hk hcell)
  have c1 := hcell k hk
  have hz0 : (0 : Int) ≤ (k : Int) := by omega
  have hz1 : (k : Int) < (l.length : Int) := by omega
  unfold hp hy
  clear hcell
  generalize fre mk11 (l.drop (k + 1)) = f at *
  generalize l.getD k 0 = x at *
  by_cases hx : x = 45
  · subst hx
    go_enter Try.func20, Try.ntmps20
    go_wp2_with (first
      | (go_at_call 33; refine (unhide HL).mono ?_; rintro e w2 ⟨rfl, b2⟩)
      | (go_at_call 32; refine (unhide HI).mono ?_; rintro e w1 ⟨rfl, rfl⟩))
    go_ret
    exact ⟨ret_bool (by simp), b2⟩
  · by_cases hx2 : x = 8208
    · subst hx2
      go_enter Try.func20, Try.ntmps20
      go_wp2_with (first
        | (go_at_call 33; refine (unhide HL).mono ?_; rintro e w2 ⟨rfl, b2⟩)
        | (go_at_call 32; refine (unhide HI).mono ?_; rintro e w1 ⟨rfl, rfl⟩))
      go_ret
      exact ⟨ret_bool (by simp), b2⟩
    · by_cases hx3 : x = 8722
      · subst hx3
        go_enter Try.func20, Try.ntmps20
        go_wp2_with (first
          | (go_at_call 33; refine (unhide HL).mono ?_; rintro e w2 ⟨rfl, b2⟩)
          | (go_at_call 32; refine (unhide HI).mono ?_; rintro e w1 ⟨rfl, rfl⟩))
        go_ret
        exact ⟨ret_bool (by simp), b2⟩
      · have n1 : (x == 45) = false := by simpa using hx
        have n2 : (x == 8208) = false := by simpa using hx2
        have n3 : (x == 8722) = false := by simpa using hx3
        have HZ : Hid (decide (x = 45 ∨ x = 8208 ∨ x = 8722) = false) := by show _ = _; simp [hx, hx2, hx3]
        generalize decide (x = 45 ∨ x = 8208 ∨ x = 8722) = z at *
        go_enter Try.func20, Try.ntmps20
        go_wp2_with (go_at_call 32; refine (unhide HI).mono ?_; rintro e w1 ⟨rfl, rfl⟩)
        go_ret
        exact ⟨ret_bool (by rw [unhide HZ]; rfl), Below.refl _ _⟩
theorem bhy_any (v : Value) (l : List Int) (i : Int) (w : World) (_ : Ly w) (hlen : l.length ≤ 20000) (hR : Row w v l) : Calls Try.prog 20 #[v, .int .i64 i] w fun e w' => e = .returned (.bool (hpAt l i)) ∧ Below w.heap.size w w' := by
  obtain ⟨a, cap, rfl, hc⟩ := hR
  unfold hpAt
  by_cases h : 0 ≤ i ∧ i < l.length
  · rw [if_pos h]
    obtain ⟨k, rfl⟩ := Int.eq_ofNat_of_zero_le h.1
    obtain ⟨b, off, rfl, hcc⟩ := hc (by omega)
    exact bhyphen_in b off cap l k w hlen (by omega) hcc
  · rw [if_neg h]
    exact bhyphen_out a l.length cap i w h
theorem sp_ok (a : Option Addr) (cap : Nat) (l : List Int) (w : World) (hlen : l.length ≤ 20000) (hR : Row w (.slice a l.length cap) l) : SpOk mk11 w a cap l := fun m W hm hb => by
  have h := bsp_any (.slice a l.length cap) l (m : Int) W trivial hlen (hR.below hb)
  unfold spAt at h
  rw [if_pos (by omega)] at h
  exact h
theorem bwords_any (v : Value) (l : List Int) (w : World) (hlen : l.length ≤ 6000) (hF : Fits v) (hR : Row w v l) : Calls Try.prog 26 #[v] w fun e w' => ∃ v', e = .returned v' ∧ Rn w.heap.size v' (inn mk11 false false l) w' ∧ Below w.heap.size w w' := by
  have hR' := hR
  obtain ⟨a, cap, rfl, hc⟩ := hR
  exact words_walk mk11 a cap l w hlen (hF _ _ _ rfl) hR' (sp_ok a cap l w (by omega) hR')
theorem concat_at (b off cap : Nat) (l : List Int) (W : World) (h0 : 0 < l.length) (hlen : l.length ≤ 6000) (hcell : ∀ i, i < l.length → W.cell? ⟨b, off + i, none⟩ = some (.int .i32 (l.getD i 0))) :
    Calls Try.prog 38 #[.slice (some ⟨W.heap.size + 1, 0, none⟩) 2 2] ((W.alloc (.cells #[.int .i32 32] 21)).alloc (.cells #[.slice (some ⟨W.heap.size, 0, none⟩) 1 1, .slice (some ⟨b, off, none⟩) l.length cap] 22)) fun e w' => ∃ v', e = .returned v' ∧ Rn W.heap.size v' (32 :: l) w' ∧ Below W.heap.size W w' := by
  have hs : (W.alloc (.cells #[.int .i32 32] 21)).heap.size = W.heap.size + 1 := by simp
  have hc2 : ∀ j, ((W.alloc (.cells #[.int .i32 32] 21)).alloc (.cells #[.slice (some ⟨W.heap.size, 0, none⟩) 1 1, .slice (some ⟨b, off, none⟩) l.length cap] 22)).cell? ⟨W.heap.size + 1, j, none⟩ = (#[Value.slice (some ⟨W.heap.size, 0, none⟩) 1 1, .slice (some ⟨b, off, none⟩) l.length cap])[j]? := fun j => by
    rw [← hs, World.cell?_alloc_mark]
  have hg1 := (Gr.one (W.alloc (.cells #[.int .i32 32] 21)) (.cells #[.slice (some ⟨W.heap.size, 0, none⟩) 1 1, .slice (some ⟨b, off, none⟩) l.length cap] 22))
  refine (concat_two (W.heap.size + 1) W.heap.size b off cap l _ h0 hlen (by rw [hc2]; rfl) (by rw [hc2]; rfl) (hg1.cell (by rw [World.cell?_alloc_mark]; rfl)) (fun i hi => hg1.cell ((Gr.one W _).cell (hcell i hi)))).mono ?_
  rintro e w' ⟨v', rfl, hr, hb⟩
  exact ⟨v', rfl, hr.base (by simp; omega), below_new (below_new hb)⟩
set_option maxHeartbeats 1600000 in
theorem bfirm_any (v : Value) (l : List Int) (w : World) (hlen : l.length ≤ 6000) (hF : Fits v) (hR : Row w v l) :
    Calls Try.prog 27 #[v] w fun e w' => ∃ v', e = .returned v' ∧ Row w' v' (firmL mk11 l) ∧ Below w.heap.size w w' ∧ Fits v' := by
  by_cases h0 : 0 < l.length
  · have hR' := hR
    obtain ⟨a, cap, rfl, hc⟩ := hR
    obtain ⟨b, off, rfl, hcc⟩ := hc h0
    have hz : (0 : Int) < (l.length : Int) := by omega
    have hz' : ((l.length : Int) == 0) = false := beq_eq_false_iff_ne.2 (by omega)
    have c1 := hcc 0 h0
    rw [Nat.add_zero] at c1
    have HK := hide (ismark (l.getD 0 0))
    have HFR : Hid (fre mk11 l = !mk11 (l.getD 0 0)) := by
      show _ = _
      obtain ⟨x, t, rfl⟩ := List.exists_cons_of_ne_nil (List.length_pos_iff.1 h0)
      simp [fre]
    have HCT := hide (fun W (hW : Below w.heap.size w W) => concat_at b off cap l W h0 hlen (fun i hi => (hW.cell (by exact cell_lt (hcc i hi))).trans (hcc i hi)))
    have HR := hide hR'
    have HFT := hide hF
    clear hcc hc hF hR'
    generalize l.getD 0 0 = x at *
    cases hq : mk11 x <;> rw [hq] at HK HFR
    · have HE : Hid (firmL mk11 l = l) := by show _ = _; unfold firmL; rw [unhide HFR]; rfl
      clear hq HCT HFR
      go_enter Try.func27, Try.ntmps27
      go_wp2_with (go_at_call 23; refine (unhide HK _).mono ?_; rintro e w1 ⟨rfl, b1⟩)
      go_ret
      rw [unhide HE]
      exact ⟨_, rfl, (unhide HR).below b1, b1, unhide HFT⟩
    · have HE : Hid (firmL mk11 l = 32 :: l) := by show _ = _; unfold firmL; rw [unhide HFR]; rfl
      clear hq HFR
      go_enter Try.func27, Try.ntmps27
      go_wp2_with (first
        | (go_at_call 38; refine (unhide HCT w1 b1).mono ?_; rintro e w2 ⟨v2, rfl, r2, b2⟩)
        | (go_at_call 23; refine (unhide HK _).mono ?_; rintro e w1 ⟨rfl, b1⟩))
      go_ret
      rw [unhide HE]
      exact ⟨_, rfl, r2.row, b1.trans (b2.mono b1.size), r2.fits⟩
  · obtain rfl : l = [] := List.length_eq_zero_iff.1 (by omega)
    have hR' := hR
    obtain ⟨a, cap, rfl, hc⟩ := hR
    have HFT := hide hF
    clear hF
    go_enter Try.func27, Try.ntmps27
    go_wp2
    go_ret
    exact ⟨_, rfl, hR', Below.refl _ _, unhide HFT⟩
end Go.Proofs.Ytdlbdfndnjdeeaa
