/- The document's lone, Space and Hyphen. -/
import Derived.Test.YtefobkgifigclaaGreatDoorM12
import Derived.Test.YtefobkgifigclaaGreatDoorM01
import Derived.Test.YtefobkgifigclaaGreatDoorM03
import Derived.Laws.AppendOwnNone
import Derived.Maps.AppendAt
import Derived.Test.YtefobkgifigclaaGreatDoorM02
import Derived.Test.YtefobkgifigclaaGreatDoorM13
namespace Go.Proofs.YtefobkgifigclaaGreatDoor
set_option maxRecDepth 100000
open Go.RowKit

def mk11 (x : Int) : Bool := decide (kd x = 3)
theorem mk11_32 : mk11 32 = false := by kernel_rfl
theorem mk11_hy (y : Int) (h : hy y = true) : mk11 y = false := by
  simp only [hy, decide_eq_true_eq] at h
  rcases h with rfl | rfl | rfl <;> kernel_rfl
def spAt (l : List Int) (i : Int) : Bool := if 0 ≤ i ∧ i < l.length then sp mk11 (l.getD i.toNat 0) (l.drop (i.toNat + 1)) else false
def hpAt (l : List Int) (i : Int) : Bool := if 0 ≤ i ∧ i < l.length then hp mk11 (l.getD i.toNat 0) (l.drop (i.toNat + 1)) else false
theorem fre_drop (l : List Int) (k : Nat) (h : k + 1 < l.length) : fre mk11 (l.drop (k + 1)) = !decide (kd (l.getD (k + 1) 0) = 3) := by
  rw [List.drop_eq_getElem_cons h]
  simp [fre, mk11, List.getD, h]
theorem fre_last (l : List Int) (k : Nat) (h : k + 1 = l.length) : fre mk11 (l.drop (k + 1)) = true := by
  rw [h, List.drop_length]; rfl

end Go.Proofs.YtefobkgifigclaaGreatDoor
/- The document's inner, Numeric and Phone. -/
namespace Go.Proofs.YtefobkgifigclaaGreatDoor
set_option maxRecDepth 100000
open Go.RowKit

theorem num_len {M : Int → Bool} : ∀ l : List Int, (numL M l).length ≤ l.length
  | [] => Nat.le_refl _
  | x :: t => by
    have := num_len (M := M) t
    simp only [numL]
    split <;> simp <;> omega
theorem ph_len {M : Int → Bool} : ∀ l : List Int, (phL M l).length ≤ l.length
  | [] => Nat.le_refl _
  | x :: t => by
    have := ph_len (M := M) t
    simp only [phL]
    split <;> simp <;> omega
theorem inn_len {M : Int → Bool} : ∀ (l : List Int) (s o : Bool), (inn M s o l).length ≤ 3 * l.length
  | [], _, _ => Nat.le_refl _
  | x :: t, s, o => by
    have h1 := inn_len (M := M) t s true
    have h2 := inn_len (M := M) t true false
    simp only [inn]
    split
    · simp only [List.length_cons]; omega
    · split <;> simp only [List.length_append, List.length_cons, List.length_nil] <;> omega
theorem drop_at (l : List Int) (k : Nat) (h : k < l.length) : l.drop k = l.getD k 0 :: l.drop (k + 1) := by
  rw [List.drop_eq_getElem_cons h]
  simp [List.getD, h]
theorem left_len {A B C : List Int} {n : Nat} (h : A ++ B = C) (hC : C.length ≤ n) : A.length ≤ n := by
  have := congrArg List.length h
  rw [List.length_append] at this
  omega

end Go.Proofs.YtefobkgifigclaaGreatDoor
/- The document's inner, Firm, Value and Piece. -/
namespace Go.Proofs.YtefobkgifigclaaGreatDoor
set_option maxRecDepth 100000
open Go.RowKit

end Go.Proofs.YtefobkgifigclaaGreatDoor
/- A row of the call's own behind another; the document's Firm and Value. -/
namespace Go.Proofs.YtefobkgifigclaaGreatDoor
set_option maxRecDepth 100000
open Go.RowKit

/-- append of a row of the call's own, be it nil or not. -/
theorem wpList_append_rn (w : World) {ops : Array Oper} {rest : List Oper} {o : Oper} {a : Act} {Q : Exit → Act → World → Prop} (hgd : o.guard = none) (s x : Operand)
    (ho : o.op = .call { callee := .builtin .append, args := #[s, x], argTypes := #[131, 131] })
    (base : Nat) (i : TypeInfo) (hi : Tryz.prog.info? 21 = some i) (hz : i.zero = some (.int .i32 0)) (hsize : i.size = 1) (hby : i.bytes = 4)
    (v : Value) (n : Nat) (xs : List Value) (hs : a.eval s = v) (hown : w.ownsRow base 21 1 v n xs)
    (u : Value) (l : List Int) (C : Nat) (hx : a.eval x = u) (hu : Rn C u l w) (h63 : n + l.length ≤ maxLen) (hbytes : (n + l.length) * 4 ≤ 140737488355328) (hbase : base ≤ w.heap.size)
    (h : ∀ v' w', w'.ownsRow base 21 1 v' (n + l.length) (xs ++ l.map (Value.int .i32)) → w.grownBy w' v.ownBlock → wpList Tryz.prog ops Q rest (a.put o.dst v') w') :
    wpList Tryz.prog ops Q (o :: rest) a w := by
  have hu' := hu
  rcases hu.2 with ⟨hv, h0⟩ | ⟨g, cap, cur, hv, _⟩
  · have hl : l = [] := List.length_eq_zero_iff.1 h0
    subst hl hv
    refine wpList_append_own_none hgd s x 131 ho base 21 i 1 Tryz.underlying131 hi v n xs hs hown hx (h v w (by simpa using hown) ?_)
    exact ⟨rfl, rfl, rfl, Nat.le_refl _, fun _ _ _ => rfl⟩
  · subst hv
    exact wpList_append_own_at w hgd s x 131 ho base 21 i _ 1 4 Tryz.underlying131 hi hz hsize hby rfl (by omega) v n xs hs hown ⟨g, 0, none⟩ l.length cap (l.map (Value.int .i32)) hx (by simp) (Rn.all hu') (ints_one _) h63 hbytes hbase fun v' w' h2 h3 _ _ => h v' w' h2 h3
theorem news_of_cells {w : World} {b off : Nat} {l : List Int} (hcc : ∀ j, j < l.length → w.cell? ⟨b, off + j, none⟩ = some (.int .i32 (l.getD j 0))) : ∀ j u, (l.map (Value.int .i32))[j]? = some u → w.cell? ((⟨b, off, none⟩ : Addr).add j) = some u := fun j u hu => by
  have hj : j < l.length := by have := (List.getElem?_eq_some_iff.1 hu).1; simpa using this
  have e : (⟨b, off, none⟩ : Addr).add j = ⟨b, off + j, none⟩ := by unfold Addr.add; split <;> simp_all
  have hu' : u = .int .i32 (l.getD j 0) := by
    rw [List.getElem?_map, List.getElem?_eq_getElem hj] at hu
    simp at hu
    rw [← hu]
    simp [List.getD, hj]
  rw [e, hu']
  exact hcc j hj
theorem val_inn_len (l : List Int) (h : l.length ≤ 10000) : (inn mk11 false false (firmL mk11 l)).length ≤ 40000 := by
  have h1 := inn_len (M := mk11) (firmL mk11 l) false false
  have h2 : (firmL mk11 l).length ≤ l.length + 1 := by unfold firmL; split <;> simp
  omega
end Go.Proofs.YtefobkgifigclaaGreatDoor
/- The document's Piece. -/
namespace Go.Proofs.YtefobkgifigclaaGreatDoor
set_option maxRecDepth 100000
open Go.RowKit

theorem spF_at (l : List Int) (h : l ≠ []) : spAt l 0 = spF mk11 l := by
  obtain ⟨x, t, rfl⟩ := List.exists_cons_of_ne_nil h
  unfold spAt
  rw [if_pos (by simp)]
  rfl
theorem last_at (l : List Int) (h : l ≠ []) : spAt l ((l.length : Int) - 1) = lastSp l := by
  have hp : 0 < l.length := List.length_pos_iff.2 h
  unfold spAt lastSp sp
  rw [if_pos (by omega)]
  have e : ((l.length : Int) - 1).toNat = l.length - 1 := by omega
  rw [e]
  have e2 : l.drop (l.length - 1 + 1) = [] := List.drop_eq_nil_of_le (by omega)
  rw [e2, List.getLast?_eq_getElem?]
  have e3 : l[l.length - 1]? = some (l.getD (l.length - 1) 0) := by
    rw [List.getElem?_eq_getElem (by omega)]; simp [List.getD, (by omega : l.length - 1 < l.length)]
  rw [e3]
  simp [fre]
end Go.Proofs.YtefobkgifigclaaGreatDoor
/- Contracts of the landed blanks: inside, marked, Space, Hyphen, firm, words, framed. -/
namespace Go.Proofs.YtefobkgifigclaaGreatDoor
set_option maxRecDepth 100000
open Go.RowKit

def Ly11 (_ : World) : Prop := True
theorem Ly11.keep {w w2 : World} (_ : Ly11 w) (_ : Below w.heap.size w w2) : Ly11 w2 := trivial

set_option maxHeartbeats 400000 in
theorem bins_any (a : Option Addr) (n cap : Nat) (i : Int) (w : World) : Calls Tryz.prog 228 #[.slice a n cap, .int .i64 i] w fun e w' => e = .returned (.bool (decide (0 ≤ i ∧ i < (n : Int)))) ∧ w' = w := by
  by_cases h0 : 0 ≤ i
  · by_cases h1 : i < (n : Int)
    · have HE : Hid (decide (0 ≤ i ∧ i < (n : Int)) = true) := by show _ = _; simp [h0, h1]
      generalize decide (0 ≤ i ∧ i < (n : Int)) = z at *
      go_enter Tryz.func228, Tryz.ntmps228
      go_wp2
      go_ret
      exact ⟨ret_bool (unhide HE).symm, rfl⟩
    · have HE : Hid (decide (0 ≤ i ∧ i < (n : Int)) = false) := by show _ = _; simp [h1]
      generalize decide (0 ≤ i ∧ i < (n : Int)) = z at *
      go_enter Tryz.func228, Tryz.ntmps228
      go_wp2
      go_ret
      exact ⟨ret_bool (unhide HE).symm, rfl⟩
  · have HE : Hid (decide (0 ≤ i ∧ i < (n : Int)) = false) := by show _ = _; simp [h0]
    generalize decide (0 ≤ i ∧ i < (n : Int)) = z at *
    go_enter Tryz.func228, Tryz.ntmps228
    go_wp2
    go_ret
    exact ⟨ret_bool (unhide HE).symm, rfl⟩
theorem ints_new (W : World) (zs : List Int) (cs : Array Value) (T : TypeId) (hcs : cs.toList = zs.map (Value.int .i64)) : Ints (W.alloc (.cells cs T)) (.slice (some ⟨W.heap.size, 0, none⟩) zs.length zs.length) zs := by
  refine ⟨_, _, rfl, fun _ => ⟨W.heap.size, 0, rfl, fun j hj => ?_⟩⟩
  rw [World.cell?_alloc_mark, Nat.zero_add]
  have : cs.toList[j]? = some (.int .i64 (zs.getD j 0)) := by rw [hcs]; simp [List.getD, hj]
  simpa using this
/-- Is x a mark, as the program asks it? -/
theorem ismark (x : Int) (w : World) : Calls Tryz.prog 198 #[.int .i32 x, .slice (some ⟨w.heap.size, 0, none⟩) 1 1] (w.alloc (.cells #[.int .i64 3] 3)) fun e w' => e = .returned (.bool (mk11 x)) ∧ Below w.heap.size w w' :=
  (is_any x _ [3] _ (ints_new w [3] _ _ rfl) (by decide)).mono fun _ _ ⟨he, hg⟩ => ⟨he.trans (ret_bool (by simp [mk11])), below_new hg.below⟩
theorem fre_mk (l : List Int) (k : Nat) (h : k + 1 < l.length) : fre mk11 (l.drop (k + 1)) = !mk11 (l.getD (k + 1) 0) := by
  rw [fre_drop l k h]; rfl
set_option maxHeartbeats 800000 in
theorem bmk_in (b off cap : Nat) (l : List Int) (k : Nat) (w : World) (hlen : l.length ≤ 20000) (hk : k < l.length) (hcell : ∀ i, i < l.length → w.cell? ⟨b, off + i, none⟩ = some (.int .i32 (l.getD i 0))) :
    Calls Tryz.prog 229 #[.slice (some ⟨b, off, none⟩) l.length cap, .int .i64 (k : Int)] w fun e w' => e = .returned (.bool (!fre mk11 (l.drop (k + 1)))) ∧ Below w.heap.size w w' := by
  by_cases hl : k + 1 = l.length
  · have HF := hide (fre_last l k hl)
    generalize fre mk11 (l.drop (k + 1)) = z at *
    have hz1 : ¬ (k : Int) < (l.length : Int) - 1 := by omega
    go_enter Tryz.func229, Tryz.ntmps229
    go_wp2
    go_ret
    exact ⟨ret_bool (by rw [unhide HF]; rfl), Below.refl _ _⟩
  · have HF := hide (fre_mk l k (by omega))
    generalize fre mk11 (l.drop (k + 1)) = z at *
    have c1 := hcell (k + 1) (by omega)
    have HK := hide (ismark (l.getD (k + 1) 0))
    generalize l.getD (k + 1) 0 = x at *
    generalize mk11 x = q at *
    have hz1 : (k : Int) < (l.length : Int) - 1 := by omega
    have hz2 : (k : Int) + 1 < (l.length : Int) := by omega
    have hz3 : (0 : Int) ≤ (k : Int) + 1 := by omega
    go_enter Tryz.func229, Tryz.ntmps229
    go_wp2_with (go_at_call 198; refine (unhide HK _).mono ?_; rintro e w1 ⟨rfl, b1⟩)
    go_ret
    exact ⟨ret_bool (by rw [unhide HF]; simp), b1⟩
set_option maxHeartbeats 800000 in
theorem bspace_out (a : Option Addr) (n cap : Nat) (i : Int) (w : World) (hi : ¬ (0 ≤ i ∧ i < (n : Int))) :
    Calls Tryz.prog 200 #[.slice a n cap, .int .i64 i] w fun e w' => e = .returned (.bool false) ∧ Below w.heap.size w w' := by
  have HI := hide (bins_any a n cap i w)
  rw [decide_eq_false hi] at HI
  go_enter Tryz.func200, Tryz.ntmps200
  go_wp2_with (go_at_call 228; refine (unhide HI).mono ?_; rintro e w1 ⟨rfl, rfl⟩)
  go_ret
  exact ⟨rfl, Below.refl _ _⟩
set_option maxHeartbeats 800000 in
theorem bspace_in (b off cap : Nat) (l : List Int) (k : Nat) (w : World) (hlen : l.length ≤ 20000) (hk : k < l.length) (hcell : ∀ i, i < l.length → w.cell? ⟨b, off + i, none⟩ = some (.int .i32 (l.getD i 0))) :
    Calls Tryz.prog 200 #[.slice (some ⟨b, off, none⟩) l.length cap, .int .i64 (k : Int)] w fun e w' => e = .returned (.bool (sp mk11 (l.getD k 0) (l.drop (k + 1)))) ∧ Below w.heap.size w w' := by
  have HI := hide (bins_any (some ⟨b, off, none⟩) l.length cap (k : Int) w)
  rw [decide_eq_true (by omega)] at HI
  have HL := hide (bmk_in b off cap l k w hlen hk hcell)
  have c1 := hcell k hk
  have hz0 : (0 : Int) ≤ (k : Int) := by omega
  have hz1 : (k : Int) < (l.length : Int) := by omega
  unfold sp
  clear hcell
  generalize fre mk11 (l.drop (k + 1)) = f at *
  generalize l.getD k 0 = x at *
  by_cases hx : x = 32
  · subst hx
    go_enter Tryz.func200, Tryz.ntmps200
    go_wp2_with (first
      | (go_at_call 229; refine (unhide HL).mono ?_; rintro e w2 ⟨rfl, b2⟩)
      | (go_at_call 228; refine (unhide HI).mono ?_; rintro e w1 ⟨rfl, rfl⟩))
    go_ret
    exact ⟨ret_bool (by simp), b2⟩
  · have hxf : (x == 32) = false := by simpa using hx
    go_enter Tryz.func200, Tryz.ntmps200
    go_wp2_with (go_at_call 228; refine (unhide HI).mono ?_; rintro e w1 ⟨rfl, rfl⟩)
    go_ret
    exact ⟨ret_bool (by simp [hx]), Below.refl _ _⟩
theorem bsp_any (v : Value) (l : List Int) (i : Int) (w : World) (_ : Ly11 w) (hlen : l.length ≤ 20000) (hR : Row w v l) : Calls Tryz.prog 200 #[v, .int .i64 i] w fun e w' => e = .returned (.bool (spAt l i)) ∧ Below w.heap.size w w' := by
  obtain ⟨a, cap, rfl, hc⟩ := hR
  unfold spAt
  by_cases h : 0 ≤ i ∧ i < l.length
  · rw [if_pos h]
    obtain ⟨k, rfl⟩ := Int.eq_ofNat_of_zero_le h.1
    obtain ⟨b, off, rfl, hcc⟩ := hc (by omega)
    exact bspace_in b off cap l k w hlen (by omega) hcc
  · rw [if_neg h]
    exact bspace_out a l.length cap i w h
set_option maxHeartbeats 800000 in
theorem bhyphen_out (a : Option Addr) (n cap : Nat) (i : Int) (w : World) (hi : ¬ (0 ≤ i ∧ i < (n : Int))) :
    Calls Tryz.prog 202 #[.slice a n cap, .int .i64 i] w fun e w' => e = .returned (.bool false) ∧ Below w.heap.size w w' := by
  have HI := hide (bins_any a n cap i w)
  rw [decide_eq_false hi] at HI
  go_enter Tryz.func202, Tryz.ntmps202
  go_wp2_with (go_at_call 228; refine (unhide HI).mono ?_; rintro e w1 ⟨rfl, rfl⟩)
  go_ret
  exact ⟨rfl, Below.refl _ _⟩
set_option maxHeartbeats 1600000 in
theorem bhyphen_in (b off cap : Nat) (l : List Int) (k : Nat) (w : World) (hlen : l.length ≤ 20000) (hk : k < l.length) (hcell : ∀ i, i < l.length → w.cell? ⟨b, off + i, none⟩ = some (.int .i32 (l.getD i 0))) :
    Calls Tryz.prog 202 #[.slice (some ⟨b, off, none⟩) l.length cap, .int .i64 (k : Int)] w fun e w' => e = .returned (.bool (hp mk11 (l.getD k 0) (l.drop (k + 1)))) ∧ Below w.heap.size w w' := by
  have HI := hide (bins_any (some ⟨b, off, none⟩) l.length cap (k : Int) w)
  rw [decide_eq_true (by omega)] at HI
  have HL := hide (bmk_in b off cap l k w hlen hk hcell)
  have c1 := hcell k hk
  have hz0 : (0 : Int) ≤ (k : Int) := by omega
  have hz1 : (k : Int) < (l.length : Int) := by omega
  unfold hp hy
  clear hcell
  generalize fre mk11 (l.drop (k + 1)) = f at *
  generalize l.getD k 0 = x at *
  by_cases hx : x = 45
  · subst hx
    go_enter Tryz.func202, Tryz.ntmps202
    go_wp2_with (first
      | (go_at_call 229; refine (unhide HL).mono ?_; rintro e w2 ⟨rfl, b2⟩)
      | (go_at_call 228; refine (unhide HI).mono ?_; rintro e w1 ⟨rfl, rfl⟩))
    go_ret
    exact ⟨ret_bool (by simp), b2⟩
  · by_cases hx2 : x = 8208
    · subst hx2
      go_enter Tryz.func202, Tryz.ntmps202
      go_wp2_with (first
        | (go_at_call 229; refine (unhide HL).mono ?_; rintro e w2 ⟨rfl, b2⟩)
        | (go_at_call 228; refine (unhide HI).mono ?_; rintro e w1 ⟨rfl, rfl⟩))
      go_ret
      exact ⟨ret_bool (by simp), b2⟩
    · by_cases hx3 : x = 8722
      · subst hx3
        go_enter Tryz.func202, Tryz.ntmps202
        go_wp2_with (first
          | (go_at_call 229; refine (unhide HL).mono ?_; rintro e w2 ⟨rfl, b2⟩)
          | (go_at_call 228; refine (unhide HI).mono ?_; rintro e w1 ⟨rfl, rfl⟩))
        go_ret
        exact ⟨ret_bool (by simp), b2⟩
      · have n1 : (x == 45) = false := by simpa using hx
        have n2 : (x == 8208) = false := by simpa using hx2
        have n3 : (x == 8722) = false := by simpa using hx3
        have HZ : Hid (decide (x = 45 ∨ x = 8208 ∨ x = 8722) = false) := by show _ = _; simp [hx, hx2, hx3]
        generalize decide (x = 45 ∨ x = 8208 ∨ x = 8722) = z at *
        go_enter Tryz.func202, Tryz.ntmps202
        go_wp2_with (go_at_call 228; refine (unhide HI).mono ?_; rintro e w1 ⟨rfl, rfl⟩)
        go_ret
        exact ⟨ret_bool (by rw [unhide HZ]; rfl), Below.refl _ _⟩
theorem bhy_any (v : Value) (l : List Int) (i : Int) (w : World) (_ : Ly11 w) (hlen : l.length ≤ 20000) (hR : Row w v l) : Calls Tryz.prog 202 #[v, .int .i64 i] w fun e w' => e = .returned (.bool (hpAt l i)) ∧ Below w.heap.size w w' := by
  obtain ⟨a, cap, rfl, hc⟩ := hR
  unfold hpAt
  by_cases h : 0 ≤ i ∧ i < l.length
  · rw [if_pos h]
    obtain ⟨k, rfl⟩ := Int.eq_ofNat_of_zero_le h.1
    obtain ⟨b, off, rfl, hcc⟩ := hc (by omega)
    exact bhyphen_in b off cap l k w hlen (by omega) hcc
  · rw [if_neg h]
    exact bhyphen_out a l.length cap i w h
theorem sp_ok (a : Option Addr) (cap : Nat) (l : List Int) (w : World) (hlen : l.length ≤ 20000) (hR : Row w (.slice a l.length cap) l) : SpOk mk11 w a cap l := fun m W hm hb => by
  have h := bsp_any (.slice a l.length cap) l (m : Int) W trivial hlen (hR.below hb)
  unfold spAt at h
  rw [if_pos (by omega)] at h
  exact h
theorem bwords_any (v : Value) (l : List Int) (w : World) (hlen : l.length ≤ 6000) (hF : Fits v) (hR : Row w v l) : Calls Tryz.prog 204 #[v] w fun e w' => ∃ v', e = .returned v' ∧ Rn w.heap.size v' (inn mk11 false false l) w' ∧ Below w.heap.size w w' := by
  have hR' := hR
  obtain ⟨a, cap, rfl, hc⟩ := hR
  exact words_walk mk11 a cap l w hlen (hF _ _ _ rfl) hR' (sp_ok a cap l w (by omega) hR')
theorem concat_at (b off cap : Nat) (l : List Int) (W : World) (h0 : 0 < l.length) (hlen : l.length ≤ 6000) (hcell : ∀ i, i < l.length → W.cell? ⟨b, off + i, none⟩ = some (.int .i32 (l.getD i 0))) :
    Calls Tryz.prog 231 #[.slice (some ⟨W.heap.size + 1, 0, none⟩) 2 2] ((W.alloc (.cells #[.int .i32 32] 21)).alloc (.cells #[.slice (some ⟨W.heap.size, 0, none⟩) 1 1, .slice (some ⟨b, off, none⟩) l.length cap] 131)) fun e w' => ∃ v', e = .returned v' ∧ Rn W.heap.size v' (32 :: l) w' ∧ Below W.heap.size W w' := by
  have hs : (W.alloc (.cells #[.int .i32 32] 21)).heap.size = W.heap.size + 1 := by simp
  have hc2 : ∀ j, ((W.alloc (.cells #[.int .i32 32] 21)).alloc (.cells #[.slice (some ⟨W.heap.size, 0, none⟩) 1 1, .slice (some ⟨b, off, none⟩) l.length cap] 131)).cell? ⟨W.heap.size + 1, j, none⟩ = (#[Value.slice (some ⟨W.heap.size, 0, none⟩) 1 1, .slice (some ⟨b, off, none⟩) l.length cap])[j]? := fun j => by
    rw [← hs, World.cell?_alloc_mark]
  have hg1 := (Gr.one (W.alloc (.cells #[.int .i32 32] 21)) (.cells #[.slice (some ⟨W.heap.size, 0, none⟩) 1 1, .slice (some ⟨b, off, none⟩) l.length cap] 131))
  refine (concat_two (W.heap.size + 1) W.heap.size b off cap l _ h0 hlen (by rw [hc2]; rfl) (by rw [hc2]; rfl) (hg1.cell (by rw [World.cell?_alloc_mark]; rfl)) (fun i hi => hg1.cell ((Gr.one W _).cell (hcell i hi)))).mono ?_
  rintro e w' ⟨v', rfl, hr, hb⟩
  exact ⟨v', rfl, hr.base (by simp; omega), below_new (below_new hb)⟩
set_option maxHeartbeats 1600000 in
theorem bfirm_any (v : Value) (l : List Int) (w : World) (hlen : l.length ≤ 6000) (hF : Fits v) (hR : Row w v l) :
    Calls Tryz.prog 205 #[v] w fun e w' => ∃ v', e = .returned v' ∧ Row w' v' (firmL mk11 l) ∧ Below w.heap.size w w' ∧ Fits v' := by
  by_cases h0 : 0 < l.length
  · have hR' := hR
    obtain ⟨a, cap, rfl, hc⟩ := hR
    obtain ⟨b, off, rfl, hcc⟩ := hc h0
    have hz : (0 : Int) < (l.length : Int) := by omega
    have hz' : ((l.length : Int) == 0) = false := beq_eq_false_iff_ne.2 (by omega)
    have c1 := hcc 0 h0
    rw [Nat.add_zero] at c1
    have HK := hide (ismark (l.getD 0 0))
    have HFR : Hid (fre mk11 l = !mk11 (l.getD 0 0)) := by
      show _ = _
      obtain ⟨x, t, rfl⟩ := List.exists_cons_of_ne_nil (List.length_pos_iff.1 h0)
      simp [fre]
    have HCT := hide (fun W (hW : Below w.heap.size w W) => concat_at b off cap l W h0 hlen (fun i hi => (hW.cell (by exact cell_lt (hcc i hi))).trans (hcc i hi)))
    have HR := hide hR'
    have HFT := hide hF
    clear hcc hc hF hR'
    generalize l.getD 0 0 = x at *
    cases hq : mk11 x <;> rw [hq] at HK HFR
    · have HE : Hid (firmL mk11 l = l) := by show _ = _; unfold firmL; rw [unhide HFR]; rfl
      clear hq HCT HFR
      go_enter Tryz.func205, Tryz.ntmps205
      go_wp2_with (go_at_call 198; refine (unhide HK _).mono ?_; rintro e w1 ⟨rfl, b1⟩)
      go_ret
      rw [unhide HE]
      exact ⟨_, rfl, (unhide HR).below b1, b1, unhide HFT⟩
    · have HE : Hid (firmL mk11 l = 32 :: l) := by show _ = _; unfold firmL; rw [unhide HFR]; rfl
      clear hq HFR
      go_enter Tryz.func205, Tryz.ntmps205
      go_wp2_with (first
        | (go_at_call 231; refine (unhide HCT w1 b1).mono ?_; rintro e w2 ⟨v2, rfl, r2, b2⟩)
        | (go_at_call 198; refine (unhide HK _).mono ?_; rintro e w1 ⟨rfl, b1⟩))
      go_ret
      rw [unhide HE]
      exact ⟨_, rfl, r2.row, b1.trans (b2.mono b1.size), r2.fits⟩
  · obtain rfl : l = [] := List.length_eq_zero_iff.1 (by omega)
    have hR' := hR
    obtain ⟨a, cap, rfl, hc⟩ := hR
    have HFT := hide hF
    clear hF
    go_enter Tryz.func205, Tryz.ntmps205
    go_wp2
    go_ret
    exact ⟨_, rfl, hR', Below.refl _ _, unhide HFT⟩
end Go.Proofs.YtefobkgifigclaaGreatDoor
/- Contracts of the landed blanks: framed, Value, Numeric, Phone, Piece. -/
namespace Go.Proofs.YtefobkgifigclaaGreatDoor
set_option maxRecDepth 100000
open Go.RowKit

def fra (h b : Bool) (m : List Int) : List Int := (if h then [32] else []) ++ (m ++ (if b then [32] else []))
set_option maxHeartbeats 3200000 in
theorem bframed_any (h b : Bool) (C : Nat) (u : Value) (m : List Int) (w : World) (hlen : m.length ≤ 30000) (hu : Rn C u m w) :
    Calls Tryz.prog 203 #[.bool h, u, .bool b] w fun e w' => ∃ v', e = .returned v' ∧ Rn w.heap.size v' (fra h b m) w' ∧ Below w.heap.size w w' := by
  obtain ⟨i0, hi, hz0, hz1, hz2⟩ := info_parts elem_info
  obtain ⟨a, c, hv⟩ := hu.shape
  obtain ⟨n, hn⟩ : ∃ n, n = m.length := ⟨_, rfl⟩
  rw [← hn] at hlen hv
  subst hv
  have HN := hide hn
  have HU := hide hu
  clear hn hu
  have e1 : IntKind.i64.wrap ((n : Int) + 2) = (n : Int) + 2 := by rw [IntKind.wrap_i64]; omega
  have hml : n + 2 ≤ maxLen := by unfold maxLen; omega
  have hm0 : 0 + 1 ≤ maxLen := by unfold maxLen; omega
  have hm1 : 0 + n ≤ maxLen := by unfold maxLen; omega
  have hm2 : 1 + n ≤ maxLen := by unfold maxLen; omega
  have hm3 : 1 + n + 1 ≤ maxLen := by unfold maxLen; omega
  have hm4 : n + 1 ≤ maxLen := by unfold maxLen; omega
  have HB1 : Hid (∀ w1, w.grownBy w1 none → Below w.heap.size w w1) := fun w1 hg => (Below.refl _ _).grown hg (Nat.le_refl _) (by intro k h; cases h)
  cases h
  · have HRN0 : Hid (∀ (v' : Value) (w' : World), w'.ownsRow w.heap.size 21 1 v' n ([] ++ m.map (Value.int .i32)) → Rn w.heap.size v' (fra false false m) w') := fun v' w' h => by
      unfold Rn fra
      rw [unhide HN] at h
      simpa using h
    have HRN1 : Hid (∀ (v' : Value) (w' : World), w'.ownsRow w.heap.size 21 1 v' (n + 1) ([] ++ m.map (Value.int .i32) ++ [.int .i32 32]) → Rn w.heap.size v' (fra false true m) w') := fun v' w' h => by
      unfold Rn fra
      rw [unhide HN] at h
      simpa using h
    cases b
    · go_enter Tryz.func203, Tryz.ntmps203
      go_wp2_with (first
        | (at_builtin; refine wpList_append_rn _ rfl _ _ rfl w.heap.size i0 hi hz0 hz1 hz2 _ 0 _ rfl (unhide O1) _ m C rfl ((unhide HU).below b1) (by rw [← unhide HN]; exact hm1) (by rw [← unhide HN]; omega) hs1 ?_; intro v5 w5 hown5 hgrow5; rw [← unhide HN, Nat.zero_add] at hown5; have hb5 := b1.trans (below_own hgrow5 hs1 (own_block (unhide O1))))
        | (refine wpList_make_own _ rfl _ _ 131 rfl w.heap.size 21 i0 (.int .i32 0) 1 Tryz.underlying131 hi hz0 hz1 .i64 .i64 _ (n + 2) rfl rfl (by simp) (by rw [hz2]; omega) hml (Nat.le_refl _) ?_; intro w1 hown1 hgrow1; have b1 := unhide HB1 _ hgrow1; have hs1 := b1.size; have O1 := hide hown1; clear hown1 hgrow1))
      go_ret
      exact ⟨_, rfl, unhide HRN0 _ _ hown5, hb5⟩
    · go_enter Tryz.func203, Tryz.ntmps203
      go_wp2_with (first
        | (at_builtin; refine wpList_append_lies _ rfl _ _ 131 rfl w.heap.size 21 i0 _ 1 4 Tryz.underlying131 hi hz0 hz1 hz2 rfl (by omega) _ n _ rfl (World.ownsRow.alloc (unhide O5) _) ⟨w5.heap.size, 0, none⟩ 1 1 [.int .i32 32] rfl rfl (World.news_of_block (cs := #[.int .i32 32]) (t := 21) (fr := (0, 0)) (heap_new w5 _)) (by simp [Value.oneCell']) (by omega) hm4 (by omega) (by simp; omega) (w5.heap.size + 1) (by simp) ?_; intro g9 cap9 w9 hown9 hgrow9 hat9 hlt9; have hb9 := (hb5.alloc (by omega) _).trans (below_own hgrow9 (by simp; omega) (own_block (unhide O5))))
        | (at_builtin; refine wpList_append_rn _ rfl _ _ rfl w.heap.size i0 hi hz0 hz1 hz2 _ 0 _ rfl (unhide O1) _ m C rfl ((unhide HU).below b1) (by rw [← unhide HN]; exact hm1) (by rw [← unhide HN]; omega) hs1 ?_; intro v5 w5 hown5 hgrow5; rw [← unhide HN, Nat.zero_add] at hown5; have hb5 := b1.trans (below_own hgrow5 hs1 (own_block (unhide O1))); have hs5 := hb5.size; have O5 := hide hown5; clear hown5 hgrow5)
        | (refine wpList_make_own _ rfl _ _ 131 rfl w.heap.size 21 i0 (.int .i32 0) 1 Tryz.underlying131 hi hz0 hz1 .i64 .i64 _ (n + 2) rfl rfl (by simp) (by rw [hz2]; omega) hml (Nat.le_refl _) ?_; intro w1 hown1 hgrow1; have b1 := unhide HB1 _ hgrow1; have hs1 := b1.size; have O1 := hide hown1; clear hown1 hgrow1))
      go_ret
      exact ⟨_, rfl, unhide HRN1 _ _ hown9, hb9⟩
  · have HRN0 : Hid (∀ (v' : Value) (w' : World), w'.ownsRow w.heap.size 21 1 v' (1 + n) ([] ++ [.int .i32 32] ++ m.map (Value.int .i32)) → Rn w.heap.size v' (fra true false m) w') := fun v' w' h => by
      unfold Rn fra
      rw [unhide HN] at h
      simpa [Nat.add_comm] using h
    have HRN1 : Hid (∀ (v' : Value) (w' : World), w'.ownsRow w.heap.size 21 1 v' (1 + n + 1) ([] ++ [.int .i32 32] ++ m.map (Value.int .i32) ++ [.int .i32 32]) → Rn w.heap.size v' (fra true true m) w') := fun v' w' h => by
      unfold Rn fra
      rw [unhide HN] at h
      simpa [Nat.add_comm, Nat.add_left_comm] using h
    cases b
    · go_enter Tryz.func203, Tryz.ntmps203
      go_wp2_with (first
        | (at_builtin; refine wpList_append_rn _ rfl _ _ rfl w.heap.size i0 hi hz0 hz1 hz2 _ 1 _ rfl (unhide O8) _ m C rfl ((unhide HU).below b8) (by rw [← unhide HN]; exact hm2) (by rw [← unhide HN]; omega) hs8 ?_; intro v5 w5 hown5 hgrow5; rw [← unhide HN] at hown5; have hb5 := hb8.trans (below_own hgrow5 hs8 (own_block (unhide O8))))
        | (at_builtin; refine wpList_append_lies _ rfl _ _ 131 rfl w.heap.size 21 i0 _ 1 4 Tryz.underlying131 hi hz0 hz1 hz2 rfl (by omega) _ 0 _ rfl (World.ownsRow.alloc (unhide O1) _) ⟨w1.heap.size, 0, none⟩ 1 1 [.int .i32 32] rfl rfl (World.news_of_block (cs := #[.int .i32 32]) (t := 21) (fr := (0, 0)) (heap_new w1 _)) (by simp [Value.oneCell']) (by omega) hm0 (by omega) (by simp; omega) (w1.heap.size + 1) (by simp) ?_; intro g8 cap8 w8 hown8 hgrow8 hat8 hlt8; rw [Nat.zero_add] at hown8; have hb8 := (b1.alloc (by omega) _).trans (below_own hgrow8 (by simp; omega) (own_block (unhide O1))); have b8 := hb8; have hs8 := hb8.size; have O8 := hide hown8; clear hown8 hgrow8 hat8 hlt8)
        | (refine wpList_make_own _ rfl _ _ 131 rfl w.heap.size 21 i0 (.int .i32 0) 1 Tryz.underlying131 hi hz0 hz1 .i64 .i64 _ (n + 2) rfl rfl (by simp) (by rw [hz2]; omega) hml (Nat.le_refl _) ?_; intro w1 hown1 hgrow1; have b1 := unhide HB1 _ hgrow1; have hs1 := b1.size; have O1 := hide hown1; clear hown1 hgrow1))
      go_ret
      exact ⟨_, rfl, unhide HRN0 _ _ hown5, hb5⟩
    · go_enter Tryz.func203, Tryz.ntmps203
      go_wp2_with (first
        | (at_builtin; refine wpList_append_lies _ rfl _ _ 131 rfl w.heap.size 21 i0 _ 1 4 Tryz.underlying131 hi hz0 hz1 hz2 rfl (by omega) _ (1 + n) _ rfl (World.ownsRow.alloc (unhide O5) _) ⟨w5.heap.size, 0, none⟩ 1 1 [.int .i32 32] rfl rfl (World.news_of_block (cs := #[.int .i32 32]) (t := 21) (fr := (0, 0)) (heap_new w5 _)) (by simp [Value.oneCell']) (by omega) hm3 (by omega) (by simp; omega) (w5.heap.size + 1) (by simp) ?_; intro g9 cap9 w9 hown9 hgrow9 hat9 hlt9; have hb9 := (hb5.alloc (by omega) _).trans (below_own hgrow9 (by simp; omega) (own_block (unhide O5))))
        | (at_builtin; refine wpList_append_rn _ rfl _ _ rfl w.heap.size i0 hi hz0 hz1 hz2 _ 1 _ rfl (unhide O8) _ m C rfl ((unhide HU).below b8) (by rw [← unhide HN]; exact hm2) (by rw [← unhide HN]; omega) hs8 ?_; intro v5 w5 hown5 hgrow5; rw [← unhide HN] at hown5; have hb5 := hb8.trans (below_own hgrow5 hs8 (own_block (unhide O8))); have hs5 := hb5.size; have O5 := hide hown5; clear hown5 hgrow5)
        | (at_builtin; refine wpList_append_lies _ rfl _ _ 131 rfl w.heap.size 21 i0 _ 1 4 Tryz.underlying131 hi hz0 hz1 hz2 rfl (by omega) _ 0 _ rfl (World.ownsRow.alloc (unhide O1) _) ⟨w1.heap.size, 0, none⟩ 1 1 [.int .i32 32] rfl rfl (World.news_of_block (cs := #[.int .i32 32]) (t := 21) (fr := (0, 0)) (heap_new w1 _)) (by simp [Value.oneCell']) (by omega) hm0 (by omega) (by simp; omega) (w1.heap.size + 1) (by simp) ?_; intro g8 cap8 w8 hown8 hgrow8 hat8 hlt8; rw [Nat.zero_add] at hown8; have hb8 := (b1.alloc (by omega) _).trans (below_own hgrow8 (by simp; omega) (own_block (unhide O1))); have b8 := hb8; have hs8 := hb8.size; have O8 := hide hown8; clear hown8 hgrow8 hat8 hlt8)
        | (refine wpList_make_own _ rfl _ _ 131 rfl w.heap.size 21 i0 (.int .i32 0) 1 Tryz.underlying131 hi hz0 hz1 .i64 .i64 _ (n + 2) rfl rfl (by simp) (by rw [hz2]; omega) hml (Nat.le_refl _) ?_; intro w1 hown1 hgrow1; have b1 := unhide HB1 _ hgrow1; have hs1 := b1.size; have O1 := hide hown1; clear hown1 hgrow1))
      go_ret
      exact ⟨_, rfl, unhide HRN1 _ _ hown9, hb9⟩
theorem firm_len (l : List Int) : (firmL mk11 l).length ≤ l.length + 1 := by unfold firmL; split <;> simp
set_option maxHeartbeats 800000 in
theorem bval_rn (v : Value) (l : List Int) (w : World) (_ : Ly11 w) (hlen : l.length ≤ 5000) (hR : Row w v l) (hF : Fits v) : Calls Tryz.prog 165 #[v] w fun e w' => ∃ v', e = .returned v' ∧ Rn w.heap.size v' (valL mk11 l) w' ∧ Below w.heap.size w w' := by
  have hfl := firm_len l
  have HFI := hide (bfirm_any v l w (by omega) hF hR)
  have HWO := hide (fun v1 w1 => bwords_any v1 (firmL mk11 l) w1 (by omega))
  have hil := inn_len11 (M := mk11) (firmL mk11 l) false false
  have HFA := hide (fun C u w1 => bframed_any true true C u (inn mk11 false false (firmL mk11 l)) w1 (by omega))
  have HE : Hid (fra true true (inn mk11 false false (firmL mk11 l)) = valL mk11 l) := by show _ = _; rfl
  rw [unhide HE] at HFA
  clear HE hil hR hF
  generalize valL mk11 l = V at *
  generalize inn mk11 false false (firmL mk11 l) = I at *
  generalize firmL mk11 l = F at *
  go_enter Tryz.func165, Tryz.ntmps165
  go_wp2_with (first
    | (go_at_call 203; refine (unhide HFA _ _ _ r2).mono ?_; rintro e w3 ⟨v3, rfl, r3, b3⟩)
    | (go_at_call 204; refine (unhide HWO _ _ f1 r1).mono ?_; rintro e w2 ⟨v2, rfl, r2, b2⟩)
    | (go_at_call 205; refine (unhide HFI).mono ?_; rintro e w1 ⟨v1, rfl, r1, b1, f1⟩))
  go_ret
  exact ⟨_, rfl, r3.base (Nat.le_trans b1.size b2.size), b1.trans ((b2.trans (b3.mono b2.size)).mono b1.size)⟩
theorem bval_fit (v : Value) (l : List Int) (w : World) (hL : Ly11 w) (hlen : l.length ≤ 5000) (hR : Row w v l) (hF : Fits v) : Calls Tryz.prog 165 #[v] w fun e w' => ∃ v', e = .returned v' ∧ Row w' v' (valL mk11 l) ∧ Below w.heap.size w w' ∧ Fits v' :=
  (bval_rn v l w hL hlen hR hF).mono fun _ _ ⟨v', he, hr, hb⟩ => ⟨v', he, hr.row, hb, hr.fits⟩
theorem bval_any (v : Value) (l : List Int) (w : World) (hL : Ly11 w) (hlen : l.length ≤ 5000) (hR : Row w v l) (hF : Fits v) : Calls Tryz.prog 165 #[v] w fun e w' => ∃ v', e = .returned v' ∧ Row w' v' (valL mk11 l) ∧ Below w.heap.size w w' :=
  (bval_rn v l w hL hlen hR hF).mono fun _ _ ⟨v', he, hr, hb⟩ => ⟨v', he, hr.row, hb⟩
set_option maxHeartbeats 800000 in
theorem bph1_any (a : Option Addr) (cap : Nat) (l : List Int) (m : Nat) (W : World) (hlen : l.length ≤ 20000) (hm : m < l.length) (hR : Row W (.slice a l.length cap) l) :
    Calls Tryz.prog 201 (#[.slice a l.length cap, .int .i64 (m : Int)] ++ #[]) W fun e w' => e = .returned (.bool ((fun x t => sp mk11 x t || hp mk11 x t) (l.getD m 0) (l.drop (m + 1)))) ∧ Below W.heap.size W w' := by
  have HS := hide (bsp_any (.slice a l.length cap) l (m : Int) W trivial hlen hR)
  have HY := hide (fun w1 (h : Below W.heap.size W w1) => bhy_any (.slice a l.length cap) l (m : Int) w1 trivial hlen (hR.below h))
  unfold spAt at HS
  unfold hpAt at HY
  rw [if_pos (by omega)] at HS
  simp only [if_pos (show (0 : Int) ≤ (m : Int) ∧ (m : Int) < (l.length : Int) from by omega)] at HY
  show Calls Tryz.prog _ _ _ fun e w' => e = .returned (.bool (sp mk11 (l.getD m 0) (l.drop (m + 1)) || hp mk11 (l.getD m 0) (l.drop (m + 1)))) ∧ Below W.heap.size W w'
  rw [Int.toNat_natCast] at HS HY
  generalize sp mk11 (l.getD m 0) (l.drop (m + 1)) = p at *
  generalize hp mk11 (l.getD m 0) (l.drop (m + 1)) = q at *
  clear hR
  cases p
  · go_enter Tryz.func201, Tryz.ntmps201
    go_wp2_with (first
      | (go_at_call 202; refine (unhide HY w1 b1).mono ?_; rintro e w2 ⟨rfl, b2⟩)
      | (go_at_call 200; refine (unhide HS).mono ?_; rintro e w1 ⟨rfl, b1⟩))
    go_ret
    exact ⟨ret_bool (by simp), b1.trans (b2.mono b1.size)⟩
  · go_enter Tryz.func201, Tryz.ntmps201
    go_wp2_with (go_at_call 200; refine (unhide HS).mono ?_; rintro e w1 ⟨rfl, b1⟩)
    go_ret
    exact ⟨ret_bool (by simp), b1⟩
set_option maxHeartbeats 400000 in
theorem bnum_any (v : Value) (l : List Int) (w : World) (_ : Ly11 w) (hlen : l.length ≤ 20000) (hR : Row w v l) : Calls Tryz.prog 163 #[v] w fun e w' => ∃ v', e = .returned v' ∧ Row w' v' (numL mk11 l) ∧ Below w.heap.size w w' := by
  have hR' := hR
  obtain ⟨a, cap, rfl, -⟩ := hR
  have HW := hide (without_any 200 (sp mk11) a cap l w (enters_of Tryz.func200 (by kernel_rfl) rfl) hlen hR' (sp_ok a cap l w hlen hR'))
  rw [flt_num] at HW
  generalize numL mk11 l = V at *
  clear hR'
  go_enter Tryz.func163, Tryz.ntmps163
  go_wp2_with (go_at_call 199; refine (unhide HW).mono ?_; rintro e w1 ⟨v1, rfl, r1, b1⟩)
  go_ret
  exact ⟨_, rfl, r1.row, b1⟩
set_option maxHeartbeats 400000 in
theorem bph_any (v : Value) (l : List Int) (w : World) (_ : Ly11 w) (hlen : l.length ≤ 20000) (hR : Row w v l) : Calls Tryz.prog 164 #[v] w fun e w' => ∃ v', e = .returned v' ∧ Row w' v' (phL mk11 l) ∧ Below w.heap.size w w' := by
  have hR' := hR
  obtain ⟨a, cap, rfl, -⟩ := hR
  have HW := hide (without_any 201 (fun x t => sp mk11 x t || hp mk11 x t) a cap l w (enters_of Tryz.func201 (by kernel_rfl) rfl) hlen hR' (fun m W hm hb => bph1_any a cap l m W hlen hm (hR'.below hb)))
  rw [flt_ph] at HW
  generalize phL mk11 l = V at *
  clear hR'
  go_enter Tryz.func164, Tryz.ntmps164
  go_wp2_with (go_at_call 199; refine (unhide HW).mono ?_; rintro e w1 ⟨v1, rfl, r1, b1⟩)
  go_ret
  exact ⟨_, rfl, r1.row, b1⟩
end Go.Proofs.YtefobkgifigclaaGreatDoor
