/- Of the library: the texts that are built by strings.Builder: WriteString, WriteByte, String: their contracts, laid for this program. -/
import Derived.Test.YtefobkgifigclaaGreatDoorProg
import Derived.Test.YtefobkgifigclaaGreatDoorM01
import Derived.Shelf.Strings.BuilderK
import Derived.RangeFuncNested
import Derived.Test.YtefobkgifigclaaGreatDoorM44
import Derived.Test.YtefobkgifigclaaGreatDoorM35
namespace Go.Proofs.YtefobkgifigclaaGreatDoor
set_option maxRecDepth 100000
open Go.RowKit

def ren22 : Go.Shelf.Ren := ⟨fun | 166 => 43 | 167 => 69 | 169 => 44 | 240 => 70 | 276 => 98 | n => n, fun | 0 => 0 | 3 => 3 | 4 => 4 | 5 => 5 | 9 => 9 | 20 => 20 | 37 => 84 | 70 => 83 | 72 => 86 | 75 => 59 | 80 => 93 | 127 => 114 | 164 => 142 | n => n, fun n => n⟩
theorem lays22_166 : Lays.n166 Tryz.prog ren22 := {
  mixed := by kernel_rfl
  f166 := Tryz.func43.trans (congrArg some (by kernel_rfl))
  f240 := Tryz.func70.trans (congrArg some (by kernel_rfl))
  f276 := Tryz.func98.trans (congrArg some (by kernel_rfl))
  t0 := Tryz.underlying0
  a0 := Tryz.isAgg0
  z0 := Tryz.sizeOf0
  v0 := Tryz.zeroValue0
  t3 := Tryz.underlying3
  a3 := Tryz.isAgg3
  z3 := Tryz.sizeOf3
  v3 := Tryz.zeroValue3
  t4 := Tryz.underlying4
  a4 := Tryz.isAgg4
  z4 := Tryz.sizeOf4
  v4 := Tryz.zeroValue4
  t9 := Tryz.underlying9
  a9 := Tryz.isAgg9
  z9 := Tryz.sizeOf9
  v9 := Tryz.zeroValue9
  t20 := Tryz.underlying20
  a20 := Tryz.isAgg20
  z20 := Tryz.sizeOf20
  v20 := Tryz.zeroValue20
  t37 := Tryz.underlying84
  a37 := Tryz.isAgg84
  z37 := Tryz.sizeOf84
  v37 := Tryz.zeroValue84
  t70 := Tryz.underlying83
  a70 := Tryz.isAgg83
  z70 := Tryz.sizeOf83
  v70 := Tryz.zeroValue83
  t72 := Tryz.underlying86
  a72 := Tryz.isAgg86
  z72 := Tryz.sizeOf86
  v72 := Tryz.zeroValue86
  t75 := Tryz.underlying59
  a75 := Tryz.isAgg59
  z75 := Tryz.sizeOf59
  v75 := Tryz.zeroValue59
  t164 := Tryz.underlying142
  a164 := Tryz.isAgg142
  z164 := Tryz.sizeOf142
  v164 := Tryz.zeroValue142 }
theorem lays22_167 : Lays.n167 Tryz.prog ren22 := {
  mixed := by kernel_rfl
  f167 := Tryz.func69.trans (congrArg some (by kernel_rfl))
  f240 := Tryz.func70.trans (congrArg some (by kernel_rfl))
  f276 := Tryz.func98.trans (congrArg some (by kernel_rfl))
  t0 := Tryz.underlying0
  a0 := Tryz.isAgg0
  z0 := Tryz.sizeOf0
  v0 := Tryz.zeroValue0
  t4 := Tryz.underlying4
  a4 := Tryz.isAgg4
  z4 := Tryz.sizeOf4
  v4 := Tryz.zeroValue4
  t5 := Tryz.underlying5
  a5 := Tryz.isAgg5
  z5 := Tryz.sizeOf5
  v5 := Tryz.zeroValue5
  t9 := Tryz.underlying9
  a9 := Tryz.isAgg9
  z9 := Tryz.sizeOf9
  v9 := Tryz.zeroValue9
  t20 := Tryz.underlying20
  a20 := Tryz.isAgg20
  z20 := Tryz.sizeOf20
  v20 := Tryz.zeroValue20
  t37 := Tryz.underlying84
  a37 := Tryz.isAgg84
  z37 := Tryz.sizeOf84
  v37 := Tryz.zeroValue84
  t70 := Tryz.underlying83
  a70 := Tryz.isAgg83
  z70 := Tryz.sizeOf83
  v70 := Tryz.zeroValue83
  t72 := Tryz.underlying86
  a72 := Tryz.isAgg86
  z72 := Tryz.sizeOf86
  v72 := Tryz.zeroValue86
  t75 := Tryz.underlying59
  a75 := Tryz.isAgg59
  z75 := Tryz.sizeOf59
  v75 := Tryz.zeroValue59
  t164 := Tryz.underlying142
  a164 := Tryz.isAgg142
  z164 := Tryz.sizeOf142
  v164 := Tryz.zeroValue142 }
theorem lays22_169 : Lays.n169 Tryz.prog ren22 := {
  mixed := by kernel_rfl
  f169 := Tryz.func44.trans (congrArg some (by kernel_rfl))
  t0 := Tryz.underlying0
  a0 := Tryz.isAgg0
  z0 := Tryz.sizeOf0
  v0 := Tryz.zeroValue0
  t3 := Tryz.underlying3
  a3 := Tryz.isAgg3
  z3 := Tryz.sizeOf3
  v3 := Tryz.zeroValue3
  t9 := Tryz.underlying9
  a9 := Tryz.isAgg9
  z9 := Tryz.sizeOf9
  v9 := Tryz.zeroValue9
  t37 := Tryz.underlying84
  a37 := Tryz.isAgg84
  z37 := Tryz.sizeOf84
  v37 := Tryz.zeroValue84
  t70 := Tryz.underlying83
  a70 := Tryz.isAgg83
  z70 := Tryz.sizeOf83
  v70 := Tryz.zeroValue83
  t72 := Tryz.underlying86
  a72 := Tryz.isAgg86
  z72 := Tryz.sizeOf86
  v72 := Tryz.zeroValue86
  t127 := Tryz.underlying114
  a127 := Tryz.isAgg114
  z127 := Tryz.sizeOf114
  v127 := Tryz.zeroValue114 }
theorem extra22 : Builder.Extra Tryz.prog ren22 := {
  sizeBuilder := by kernel_rfl
  liesBuilder := by kernel_rfl
  t5 := Tryz.underlying5
  a5 := Tryz.isAgg5
  z5 := Tryz.sizeOf5
  v5 := Tryz.zeroValue5
  infoByte := by kernel_rfl
  cellsByte := by kernel_rfl
  sizeByte := by kernel_rfl
  neB5 := by decide }

/-- A builder of the call's own (its box is block b, from B on), that holds these bytes. -/
def Sb (B b : Nat) (l : List UInt8) (w : World) : Prop := Lib.IsBuilderF 86 5 B b (Lib.byteCells l) w
theorem Sb.new (w : World) : Sb w.heap.size w.heap.size [] (w.alloc (.cells #[.pointer none, .slice none 0 0] 86)) := Lib.IsBuilderF.of (Lib.fresh_isBuilder _ _ _)
theorem sb_at_keep {T e : TypeId} {B b : Nat} {p : Value} {bs : List Value} {W W2 : World} (h : Lib.BuilderAtF T e B b p bs W) (hb : Below W.heap.size W W2) : Lib.BuilderAtF T e B b p bs W2 := by
  have hl := h.lt
  obtain ⟨hB, v, hbk, hown, hne⟩ := h
  refine ⟨hB, v, (hb.block _ hl).trans hbk, ⟨hown.1, ?_⟩, hne⟩
  rcases hown.2 with h' | ⟨g, cap, cur, fz, hv, hBg, hg, rest⟩
  · exact .inl h'
  · exact .inr ⟨g, cap, cur, fz, hv, hBg, (hb.block _ (Array.getElem?_eq_some_iff.1 hg).1).trans hg, rest⟩
theorem Sb.keep {B b : Nat} {l : List UInt8} {W W2 : World} (h : Sb B b l W) (hb : Below W.heap.size W W2) : Sb B b l W2 := h.elim (fun x => .inl (sb_at_keep x hb)) (fun x => .inr (sb_at_keep x hb))
theorem sb_at_own {T e : TypeId} {B b : Nat} {p : Value} {bs : List Value} {W W2 : World} {row : Option Nat} (h : Lib.BuilderAtF T e B b p bs W) (hg : W.grownBy W2 row) (hr : ∀ r, row = some r → ∃ o : Obj, W.heap[r]? = some o ∧ o.isCells = false) : Lib.BuilderAtF T e B b p bs W2 := by
  have hl := h.lt
  obtain ⟨hB, v, hbk, hown, hne⟩ := h
  have no : ∀ (k : Nat) (cs : Array Value) (t : TypeId) (fz : Nat × Nat), W.heap[k]? = some (.cells cs t fz) → W2.heap[k]? = some (.cells cs t fz) := fun k cs t fz hk => by
    refine (hg.block k (Array.getElem?_eq_some_iff.1 hk).1 (fun e => ?_)).trans hk
    obtain ⟨o, ho, hc⟩ := hr k e.symm
    rw [hk] at ho
    cases ho
    cases hc
  refine ⟨hB, v, no _ _ _ _ hbk, ⟨hown.1, ?_⟩, hne⟩
  rcases hown.2 with h' | ⟨g, cap, cur, fz, hv, hBg, hg', rest⟩
  · exact .inl h'
  · exact .inr ⟨g, cap, cur, fz, hv, hBg, no _ _ _ _ hg', rest⟩
theorem Sb.own {B b : Nat} {l : List UInt8} {W W2 : World} {row : Option Nat} (h : Sb B b l W) (hg : W.grownBy W2 row) (hr : ∀ r, row = some r → ∃ o : Obj, W.heap[r]? = some o ∧ o.isCells = false) : Sb B b l W2 := h.elim (fun x => .inl (sb_at_own x hg hr)) (fun x => .inr (sb_at_own x hg hr))
theorem Sb.lt {B b : Nat} {l : List UInt8} {W : World} (h : Sb B b l W) : b < W.heap.size := h.elim (fun x => x.lt) (fun x => x.lt)
theorem byteCells_app (l m : List UInt8) : Lib.byteCells (l ++ m) = Lib.byteCells l ++ Lib.byteCells m := by unfold Lib.byteCells; rw [List.map_append]
theorem byteCells_len (l : List UInt8) : (Lib.byteCells l).length = l.length := by unfold Lib.byteCells; rw [List.length_map]
theorem wrs22 (B b : Nat) (l : List UInt8) (s : ByteArray) (w : World) (h : Sb B b l w) (hl : l.length + s.size ≤ 140737488355328) (hB : B ≤ w.heap.size) :
    Calls Tryz.prog 43 #[.pointer (some ⟨b, 0, none⟩), .string s] w fun e w' => (∃ n, e = .returned (.tuple #[.int .i64 n, .nilIface])) ∧ Sb B b (l ++ s.data.toList) w' ∧ Below B w w' ∧ Lib.OthersKept 5 (some b) w w' :=
  (Any.Builder_WriteString_k lays22_166 extra22 B b (Lib.byteCells l) s w h (by rw [byteCells_len]; exact hl) hB).mono fun e w' ⟨he, hb, hk, ho⟩ => ⟨⟨_, he⟩, .inr (by rw [byteCells_app]; exact hb), hk, ho⟩
theorem wrb22 (B b : Nat) (l : List UInt8) (c : UInt8) (w : World) (h : Sb B b l w) (hl : l.length + 1 ≤ 140737488355328) (hB : B ≤ w.heap.size) :
    Calls Tryz.prog 69 #[.pointer (some ⟨b, 0, none⟩), .int .u8 (c.toNat : Int)] w fun e w' => e = .returned .nilIface ∧ Sb B b (l ++ [c]) w' ∧ Below B w w' :=
  (Any.Builder_WriteByte_k lays22_167 extra22 B b (Lib.byteCells l) c.toNat w h (by rw [byteCells_len]; exact hl) hB).mono fun e w' ⟨he, hb, hk, _⟩ => ⟨he, .inr (by rw [byteCells_app]; exact hb), hk⟩
theorem str22 (B b : Nat) (l : List UInt8) (w : World) (h : Sb B b l w) (hB : B ≤ w.heap.size) :
    Calls Tryz.prog 44 #[.pointer (some ⟨b, 0, none⟩)] w fun e w' => e = .returned (.string ⟨l.toArray⟩) ∧ Below B w w' ∧ Lib.OthersKept 5 (some b) w w' :=
  (Any.Builder_String_any_k lays22_169 extra22 B b l w h hB).mono fun _ _ h => ⟨h.1, h.2.2.1, h.2.2.2⟩
end Go.Proofs.YtefobkgifigclaaGreatDoor
/- The landed partKey of layer 22, of a part of one pair. -/
namespace Go.Proofs.YtefobkgifigclaaGreatDoor
set_option maxRecDepth 100000
open Go.RowKit

theorem insort22 (a : Addr) (cap : Nat) (f : Value) (w : World) : Calls Tryz.prog 133 #[.slice (some a) 1 cap, .int .i64 0, .int .i64 1, f] w fun e w' => e = .returned (.tuple #[]) ∧ w = w' := by
  go_enter Tryz.func133, Tryz.ntmps133
  go_wp2
  refine wp_loop_rounds 1 ?_
  rw [rounds_succ]
  go_wp2
  refine bodyPost_end (results_none rfl _ _ _) rfl ?_
  exact ⟨rfl, rfl⟩
theorem len32_22 (w : World) : Calls Tryz.prog 105 #[.int .u64 1] w fun e w' => e = .returned (.int .i64 1) ∧ w' = w := by
  go_enter Tryz.func105, Tryz.ntmps105
  go_wp2
  go_ret
  exact ⟨by kernel_rfl, rfl⟩
theorem len22 (w : World) : Calls Tryz.prog 97 #[.int .u64 1] w fun e w' => e = .returned (.int .i64 1) ∧ w' = w := by
  go_enter Tryz.func97, Tryz.ntmps97
  go_wp2_with (go_at_call 105; refine (len32_22 _).mono ?_; rintro e w2 ⟨rfl, rfl⟩)
  go_ret
  exact ⟨rfl, rfl⟩
set_option maxHeartbeats 800000 in
theorem pdq22 (a : Addr) (cap : Nat) (f : Value) (n : Int) (w : World) : Calls Tryz.prog 96 #[.slice (some a) 1 cap, .int .i64 0, .int .i64 1, .int .i64 n, f] w fun e w' => e = .returned (.tuple #[]) ∧ w = w' := by
  go_enter Tryz.func96, Tryz.ntmps96
  go_wp2
  refine wp_loop_rounds 1 ?_
  rw [rounds_succ]
  go_wp2_with (go_at_call 133; refine (insort22 _ _ _ _).mono ?_; rintro e w2 ⟨rfl, rfl⟩)
  try simp only [Exit.inBlock, Exit.then]
  refine bodyPost_ret (results_none rfl _ _ _) rfl ?_
  exact ⟨rfl, rfl⟩
theorem sort22 (a : Addr) (cap : Nat) (f : Value) (w : World) : Calls Tryz.prog 67 #[.slice (some a) 1 cap, f] w fun e w' => e = .returned (.tuple #[]) ∧ w = w' := by
  go_enter Tryz.func67, Tryz.ntmps67
  go_wp2_with (first
    | (go_at_call 96; refine (pdq22 _ _ _ _ _).mono ?_; rintro e w2 ⟨rfl, rfl⟩)
    | (go_at_call 97; refine (len22 _).mono ?_; rintro e w2 ⟨rfl, rfl⟩))
  refine bodyPost_end (results_none rfl _ _ _) rfl ?_
  exact ⟨rfl, rfl⟩
set_option maxHeartbeats 3200000 in
theorem part22 (bs : Nat) (p : S18.Pr) (key : ByteArray) (v : Value) (w : World) (hR : S18.PsV w v [p]) (hk : key.size ≤ 1000000)
    (CP : ∀ W, Below w.heap.size w W → Calls Tryz.prog 61 (#[.agg #[.string p.nam, .string p.val]] ++ #[.pointer (some ⟨bs, 0, none⟩)]) W fun e w' => e = .returned (.tuple #[.string key, .int .i64 0]) ∧ Below W.heap.size W w') :
    Calls Tryz.prog 42 #[v, .func (.func 61) #[] #[.pointer (some ⟨bs, 0, none⟩)]] w fun e w' => e = .returned (.tuple #[.string ⟨(key.data.toList ++ [0]).toArray⟩, .int .i64 0]) ∧ Below w.heap.size w w' := by
  have CC := hide (S18.clone_any v [p] w (by simp) hR)
  have HCP := hide CP
  obtain ⟨va, vc, rfl⟩ := hR.shape
  obtain ⟨n, x⟩ := p
  have hl : key.data.toList.length = key.size := by show key.data.toList.length = key.data.size; simp
  clear CP hR
  go_enter Tryz.func42, Tryz.ntmps42
  go_wp2_with (first
    | (go_at_call 67; refine (sort22 _ _ _ _).mono ?_; rintro e w' ⟨rfl, rfl⟩)
    | (go_at_call 66; refine (unhide CC).mono ?_; rintro e w1 ⟨v1, rfl, hrp, b1⟩; obtain ⟨a1, c1, rfl, hn1, hc1⟩ := S18.Rp.ps hrp (by simp); obtain ⟨g, o, rfl, hcc⟩ := hc1 (by simp)))
  refine wp_loop_rounds 1 ?_
  rw [rounds_succ]
  go_wp2
  have S2 := hide (Sb.new w1)
  have b2 := Below.one w1 (.cells #[.pointer none, .slice none 0 0] 86)
  have t2 := b1.trans (b2.mono b1.size)
  have z1 := b2.size
  have q0 : _ = some (Value.string n) := (b2.cell (cell_lt (hcc 0 (by simp)).1)).trans (hcc 0 (by simp)).1
  have q1 : _ = some (Value.string x) := (b2.cell (cell_lt (hcc 0 (by simp)).2)).trans (hcc 0 (by simp)).2
  rw [Nat.zero_mul, Nat.add_zero] at q0 q1
  generalize w1.alloc (.cells #[.pointer none, .slice none 0 0] 86) = w2 at *
  have b3 := Below.one w2 (.cells #[.string n, .string x] 53)
  have t3 := t2.trans (b3.mono t2.size)
  have HCP3 := hide (unhide HCP _ t3)
  refine wp_loop_rounds 2 ?_
  rw [rounds_succ]
  go_wp2_with (first
    | (go_at_call 43; refine (wrs22 _ _ _ _ _ (unhide S4) (by simp; omega) z4).mono ?_; rintro e w5 ⟨⟨ne, rfl⟩, hs5, b5, _⟩; have S5 := hide hs5; have z5 := Nat.le_trans z4 b5.size; have t5 := t4.trans (b5.mono b1.size); clear hs5)
    | (go_at_call 61; refine (unhide HCP3).mono ?_; rintro e w4 ⟨rfl, b4⟩; have S4 := hide ((unhide S2).keep (b3.trans (b4.mono b3.size))); have z4 := Nat.le_trans (Nat.le_trans z1 b3.size) b4.size; have t4 := t3.trans (b4.mono t3.size)))
  rw [rounds_succ]
  go_wp2_with (first
    | (go_at_call 44; refine (str22 _ _ _ _ (unhide S6) z6).mono ?_; rintro e w7 ⟨rfl, b7, _⟩; have t7 := t6.trans (b7.mono b1.size))
    | (go_at_call 69; refine (wrb22 _ _ _ 0 _ (unhide S5) (by simp; omega) z5).mono ?_; rintro e w6 ⟨rfl, hs6, b6⟩; have S6 := hide hs6; have z6 := Nat.le_trans z5 b6.size; have t6 := t5.trans (b6.mono b1.size); clear hs6))
  refine bodyPost_ret (results_tmp2 rfl _ _ _) rfl ?_
  exact ⟨rfl, t7⟩
end Go.Proofs.YtefobkgifigclaaGreatDoor
