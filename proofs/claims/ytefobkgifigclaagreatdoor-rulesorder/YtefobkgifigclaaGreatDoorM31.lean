/- Rows of bytes of the call's own. -/
import Derived.Test.YtefobkgifigclaaGreatDoorM28
import Derived.Maps.AppendAt
import Derived.Lib.AppendStr
import Derived.OwnWalk
import Derived.Deep.AppendLies
import Derived.Test.YtefobkgifigclaaGreatDoorM30
namespace Go.Proofs.YtefobkgifigclaaGreatDoor.S18
set_option maxRecDepth 100000
open Go.RowKit

/-- A row of bytes of the call's own. -/
def Ob (B : Nat) (v : Value) (X : List Int) (w : World) : Prop := w.ownsRow B 5 1 v X.length (X.map (Value.int .u8))
theorem Ob.below {w w2 : World} {B : Nat} {v : Value} {X : List Int} (h : Ob B v X w) (hb : Below w.heap.size w w2) : Ob B v X w2 := own_below h hb
theorem Ob.own {w : World} {B N : Nat} {v : Value} {X : List Int} (hN : N = X.length) (h : Ob B v X w) : w.ownsRow B 5 1 v N (X.map (Value.int .u8)) := by subst hN; exact h
theorem Ob.push {w : World} {B N m : Nat} {v : Value} {X Z : List Int} (hN : N = X.length) (hm : m = Z.length) (h : w.ownsRow B 5 1 v (N + m) (X.map (Value.int .u8) ++ Z.map (Value.int .u8))) : Ob B v (X ++ Z) w := by
  subst hN hm
  unfold Ob
  rw [List.length_append, List.map_append]
  exact h
theorem u8_info : (Tryz.prog.info? 5).map (fun i => (i.zero, i.size, i.bytes)) = some (some (.int .u8 0), 1, 1) := by kernel_rfl
theorem grown_new {w w2 : World} {row : Option Nat} {o : Obj} (h : (w.alloc o).grownBy w2 row) : w.grownBy w2 row := (World.grownBy_alloc w o row).trans h
theorem Ob.conv {B : Nat} {v : Value} {X : List Int} {w : World} (h : Ob B v X w) : (convert 84 9 v).run Tryz.prog w = .ok (.string (strOfNums X)) w := by
  rcases h.2 with ⟨hv, h0⟩ | ⟨g, cap, cur, hv, _⟩
  · have hX : X = [] := List.eq_nil_of_length_eq_zero h0
    subst hX
    rw [hv]
    exact run_convert_bytes_nil w 84 5 Tryz.underlying84 Tryz.underlying5 0 0 9 Tryz.underlying9
  · rw [hv]
    refine run_convert_bytes_arg w 84 5 Tryz.underlying84 Tryz.underlying5 g 0 X.length cap X rfl ?_ 9 Tryz.underlying9
    intro i hi
    have := World.ownsRow.cells h (g := g) (by rw [hv]; rfl) i (.int .u8 (X.getD i 0)) (by simp [List.getD, hi])
    rw [add_zero3] at this
    rwa [Nat.zero_add]
theorem strCells_nums (s : ByteArray) : Lib.strCells s = (nums s).map (Value.int .u8) := by
  unfold Lib.strCells nums
  rw [List.map_map]
  rfl
theorem at_of {v : Value} {W : World} {g9 H n c : Nat} (hH : W.heap.size ≤ H) (hat : v.ownBlock = some g9 ∨ g9 = H) : ∀ g, (Value.slice (some ⟨g9, 0, none⟩) n c).ownBlock = some g → v.ownBlock = some g ∨ W.heap.size ≤ g := fun g e => by
  have e2 : g9 = g := Option.some.inj e
  subst e2
  rcases hat with h | h
  · exact .inl h
  · exact .inr (by omega)
theorem at_of2 {v : Value} {W : World} {g9 n c : Nat} (hat : v.ownBlock = some g9 ∨ W.heap.size ≤ g9) : ∀ g, (Value.slice (some ⟨g9, 0, none⟩) n c).ownBlock = some g → v.ownBlock = some g ∨ W.heap.size ≤ g := fun g e => by
  have e2 : g9 = g := Option.some.inj e
  subst e2
  exact hat
theorem Ob.push_str {w : World} {B N : Nat} {v : Value} {X : List Int} {s : ByteArray} (hN : N = X.length) (h : w.ownsRow B 5 1 v (N + s.size) (X.map (Value.int .u8) ++ Lib.strCells s)) : Ob B v (X ++ nums s) w := by
  rw [strCells_nums] at h
  exact Ob.push hN (nums_length s).symm h
/-- A row of bytes beside a box of two texts. -/
structure Lb (B b : Nat) (w0 : World) (x y : ByteArray) (v : Value) (Y : List Int) (w : World) : Prop where
  own : Ob B v Y w
  bel : Below B w0 w
  blk : w.heap[b]? = some (.cells #[.string x, .string y] 53)
  big : B ≤ w.heap.size
theorem blk_lt {w : World} {b : Nat} {o : Obj} (h : w.heap[b]? = some o) : b < w.heap.size := (Array.getElem?_eq_some_iff.1 h).1
theorem blk_cell {w : World} {b : Nat} {cs : Array Value} {T : TypeId} (h : w.heap[b]? = some (.cells cs T)) (o : Nat) : w.cell? ⟨b, o, none⟩ = cs[o]? := by
  unfold World.cell?
  rw [show w.heap[(⟨b, o, none⟩ : Addr).block]? = w.heap[b]? from rfl, h]
  rfl
theorem Lb.c0 {B b : Nat} {w0 w : World} {x y : ByteArray} {v : Value} {Y : List Int} (h : Lb B b w0 x y v Y w) : w.cell? ⟨b, 0, none⟩ = some (.string x) := blk_cell h.blk 0
theorem Lb.c1 {B b : Nat} {w0 w : World} {x y : ByteArray} {v : Value} {Y : List Int} (h : Lb B b w0 x y v Y w) : w.cell? ⟨b, 1, none⟩ = some (.string y) := blk_cell h.blk 1
/-- A row of bytes lies in no box of pairs. -/
theorem Ob.ne {B b : Nat} {w : World} {v : Value} {Y : List Int} {cs : Array Value} {T : TypeId} (h : Ob B v Y w) (hb : w.heap[b]? = some (.cells cs T)) (hT : T ≠ 5) : v.ownBlock ≠ some b := by
  rcases h.2 with ⟨hv, _⟩ | ⟨g, cap, cur, hv, hB, hg, _⟩
  · rw [hv]; simp [Value.ownBlock]
  · rw [hv]
    intro e
    have e2 : g = b := Option.some.inj e
    subst e2
    rw [hb] at hg
    have := Option.some.inj hg
    injection this with _ h2
    exact hT h2
theorem Lb.app {B b : Nat} {w0 w w2 : World} {x y : ByteArray} {v v2 : Value} {Y Z : List Int} (h : Lb B b w0 x y v Y w) (hg : w.grownBy w2 v.ownBlock) (ho : Ob B v2 Z w2) : Lb B b w0 x y v2 Z w2 := by
  have hne := h.own.ne h.blk (by decide)
  refine ⟨ho, h.bel.trans (below_own hg h.big (own_block h.own)), ?_, Nat.le_trans h.big hg.size⟩
  obtain ⟨_, _, _, _, hk⟩ := hg
  exact (hk b (blk_lt h.blk) (fun e => hne e.symm)).trans h.blk
theorem Lb.new {B : Nat} {w0 w : World} (x y : ByteArray) {v : Value} {Y : List Int} (ho : Ob B v Y w) (hb : Below B w0 w) (hB : B ≤ w.heap.size) : Lb B w.heap.size w0 x y v Y (w.alloc (.cells #[.string x, .string y] 53)) :=
  ⟨World.ownsRow.alloc ho _, hb.alloc hB _, heap_new w _, by simp; omega⟩
/-- Of a row that grew: its block is the old one, or a new one. -/
def Nx (v v2 : Value) (w : World) : Prop := ∀ g, v2.ownBlock = some g → v.ownBlock = some g ∨ w.heap.size ≤ g
end Go.Proofs.YtefobkgifigclaaGreatDoor.S18
/- The landed readValue of layer 18. -/
namespace Go.Proofs.YtefobkgifigclaaGreatDoor.S18
set_option maxRecDepth 100000
open Go.RowKit

theorem jumps18 {P : Program} {a : Act} {w : World} {Q : Exit → Act → World → Prop} {c rest : Code} (l : Nat) (J : Act → World → Prop) (μ : Act → World → Nat) (hf : findLabel c l = some (Code.skip.seq rest))
    (pass : ∀ a w, J a w → rest.wp P (Exit.jump l (fun a' w' => J a' w' ∧ μ a' w' < μ a w) Q) a w)
    (first : (∀ a w, J a w → rest.wp P (Exit.jump l J Q) a w) → c.wp P (Exit.jump l J Q) a w) : (Code.scope c).wp P Q a w := by
  refine wp_scope_jumps l J μ hf (first fun a w h => wp_mono (pass a w h) ?_) fun a w h => wp_seq (wp_skip (pass a w h))
  intro e a' w' h
  cases e with
  | goto l' => exact ⟨h.1, h.2.1⟩
  | normal => exact h
  | exit id => exact h
  | ret => exact h
  | panic ch => exact h
  | outgrown => exact h
/-- How much is still to be gone through at the label. -/
def muv (n : Nat) (a : Act) (_ : World) : Nat := n - (intOf (a.tmps.getD 6 undef)).toNat
/-- The frame at the label. -/
def Frv (s : ByteArray) (v : Value) (t : Nat) (bb : Bool) (q : Act) : Prop := ∃ u : Nat → Value, q = { tmps := #[.string s, u 1, u 2, u 3, u 4, v, .int .i64 (t : Int), .bool bb, u 8, u 9, u 10, u 11, u 12, u 13, u 14, u 15, u 16, u 17, u 18, u 19, u 20, u 21, u 22, u 23, u 24, u 25, u 26, u 27, u 28, u 29, u 30, u 31, u 32, u 33, u 34, u 35, u 36, u 37, u 38, u 39, u 40, u 41, u 42, u 43, u 44, u 45, u 46, u 47, u 48, u 49, u 50, u 51, u 52, u 53, u 54, u 55, u 56, u 57, u 58, u 59, u 60, u 61, u 62, u 63, u 64, u 65, u 66, u 67, u 68, u 69, u 70, u 71], defers := [] }
theorem arr_fn (t : Array Value) (n : Nat) (h : t.size = n) : t = ((List.range n).map fun k => t.getD k undef).toArray := by
  subst h
  apply Array.ext
  · simp
  · intro i h1 h2
    simp [h1]
theorem Frv.of {s : ByteArray} {v : Value} {t : Nat} {bb : Bool} {q : Act} (h : q.tmps.size = 72) (hd : q.defers = []) (h0 : q.tmps.getD 0 undef = .string s) (h5 : q.tmps.getD 5 undef = v) (h6 : q.tmps.getD 6 undef = .int .i64 (t : Int)) (h7 : q.tmps.getD 7 undef = .bool bb) : Frv s v t bb q := by
  obtain ⟨tm, df⟩ := q
  simp only at h hd h0 h5 h6 h7
  subst hd
  refine ⟨fun k => tm.getD k undef, ?_⟩
  rw [← h0, ← h5, ← h6, ← h7]
  exact congrArg (fun x => ({ tmps := x, defers := [] } : Act)) (arr_fn tm 72 h)
theorem Ob.nil (B : Nat) (w : World) : Ob B (.slice none 0 0) [] w := ⟨rfl, .inl ⟨rfl, rfl⟩⟩
theorem ret_ssb {a b c d : ByteArray} {x y : Bool} (h1 : a = b) (h2 : c = d) (h3 : x = y) : Ending.returned (.tuple #[.string a, .string c, .bool x]) = .returned (.tuple #[.string b, .string d, .bool y]) := by rw [h1, h2, h3]
set_option maxHeartbeats 12800000 in
theorem rvalue_any (s : ByteArray) (w : World) (hL : Ly w) (hs : s.size ≤ 100000) :
    Calls Tryz.prog 153 #[.string s] w fun e w' => ∃ a r ok, e = .returned (.tuple #[.string a, .string r, .bool ok]) ∧ rvOk (nums s) a r ok ∧ Below w.heap.size w w' := by
  obtain ⟨i0, hi, hz0, hz1, hz2⟩ := info_parts u8_info
  have hnl := nums_length s
  go_enter Tryz.func153, Tryz.ntmps153
  go_wp2
  refine jumps18 0 (fun q wr => ∃ (v : Value) (t : Nat) (bb : Bool) (out : List Int), Frv s v t bb q ∧ t ≤ s.size ∧ out.length ≤ t ∧ (bb = true → 0 < t) ∧ Hid (atL (nums s) t (bb && decide ((nums s).getD (t - 1) 0 = 32)) out) ∧ Hid (Ob w.heap.size v out wr) ∧ Below w.heap.size w wr) (muv s.size) rfl ?_ ?_
  · rintro q wl ⟨v, t, bb, out, ⟨u, rfl⟩, ht, hol, hbt, HA, HO, hb⟩
    have hsz := hb.size
    have hz0' : (0 : Int) ≤ (t : Int) := by omega
    have hzt : (t : Int) ≤ (s.size : Int) := by omega
    have cv := (unhide HO).conv
    have cvN : ∀ n, (convert 84 9 v).run Tryz.prog (wl.drewN n) = .ok (.string (strOfNums out)) (wl.drewN n) := fun n => ((unhide HO).below (below_drewN (Below.refl _ _) n)).conv
    have HD := hide (nums_drop s t)
    cases bb
    · rw [Bool.false_and] at HA
      clear hbt
      by_cases hte : t = s.size
      · have HV := hide (atL_end (unhide HA) (.inl (by omega)))
        subst hte
        have HE : Hid (rvOk (nums s) (strOfNums out) (ByteArray.empty) true) := rv_some (by rw [unhide HV]; rfl) (by rw [List.drop_eq_nil_of_le (by omega)]; rfl)
        clear HV HA
        go_wp2
        go_quiet (fail)
        go_wp2
        simp only [Exit.jump]
        go_ret3
        exact ⟨_, _, _, rfl, unhide HE, below_drewN hb _⟩
      have hlt : t < s.size := by omega
      have zlt : (t : Int) < (s.size : Int) := by omega
      have zne : ¬ (t : Int) = (s.size : Int) := by omega
      have zne' : ((t : Int) == (s.size : Int)) = false := by rw [beq_eq_false_iff_ne]; exact zne
      obtain ⟨c, hc⟩ : ∃ c : Int, (s[t].toNat : Int) = c := ⟨_, rfl⟩
      have hat : (nums s).getD (t) 0 = c := by rw [nums_at s (t) hlt]; exact hc
      by_cases h44 : c = 44
      · have HV := hide (atL_end (unhide HA) (.inr (.inl (by rw [hat]; exact h44))))
        clear hat
        subst h44
        have HE : Hid (rvOk (nums s) (strOfNums out) (s.extract (t) s.size) true) := rv_some (by rw [unhide HV]; rfl) (unhide HD)
        clear HV HA
        go_wp2
        go_quiet (fail)
        go_wp2
        simp only [Exit.jump]
        go_ret3
        exact ⟨_, _, _, rfl, unhide HE, below_drewN hb _⟩
      have h44' : (c == 44) = false := by rw [beq_eq_false_iff_ne]; exact h44
      by_cases h43 : c = 43
      · have HV := hide (atL_end (unhide HA) (.inr (.inr (by rw [hat]; exact h43))))
        clear hat
        subst h43
        have HE : Hid (rvOk (nums s) (strOfNums out) (s.extract (t) s.size) true) := rv_some (by rw [unhide HV]; rfl) (unhide HD)
        clear HV HA
        go_wp2
        go_quiet (fail)
        go_wp2
        simp only [Exit.jump]
        go_ret3
        exact ⟨_, _, _, rfl, unhide HE, below_drewN hb _⟩
      have h43' : (c == 43) = false := by rw [beq_eq_false_iff_ne]; exact h43
      clear hat
      obtain ⟨B, Z, hr, hB0, hB1, hZ0, hZ3, hZl, hNO, hST⟩ := rd_facts s (t) _ out (unhide HA) hlt c hc h44 h43
      have CR := hide (rbyte_any (s.extract (t) s.size) wl (hL.keep hb) (by rw [ByteArray.size_extract]; omega))
      rw [nums_drop s (t), hr] at CR
      simp only at CR
      clear hr HA HD cv cvN
      obtain ⟨N, hN⟩ : ∃ N, N = out.length := ⟨_, rfl⟩
      have HN := hide hN
      rw [← hN] at hol
      have hm1 : N + 1 ≤ maxLen := by unfold maxLen; omega
      have hm2 : (N + 1) * 1 ≤ 140737488355328 := by omega
      obtain ⟨T, hT⟩ : ∃ T : Nat, (t : Int) + Z = (T : Int) := ⟨((t : Int) + Z).toNat, by omega⟩
      have wT : IntKind.i64.wrap ((t : Int) + Z) = (T : Int) := by rw [hT]; exact wrap_in (by omega) (by omega)
      have hTs : T ≤ s.size := by omega
      have HGO : Hid (Z ≠ 0 → ¬ (t = 0 ∧ Z = 1 ∧ (B = 32 ∨ B = 35)) → atL (nums s) T ((Z == 1) && decide ((nums s).getD (T - 1) 0 = 32)) (out ++ [B])) := fun h2 h3 => hST h2 h3 T (by omega)
      have HEE := hide hNO
      clear hNO hST hN
      by_cases hz : Z = 0
      · have HE := hide (unhide HEE (.inl hz))
        subst hz
        clear HGO HEE hT wT
        go_wp2_with (first
          | (go_at_call 184; refine (unhide CR).mono ?_; rintro e w2 ⟨rfl, b2⟩; have O2 := hide ((unhide HO).below b2); have hb2 := hb.trans (b2.mono hsz); have hs2 := hb2.size))
        simp only [Exit.jump]
        go_ret3
        exact ⟨_, _, _, rfl, unhide HE _ _, hb2⟩
      have hz' : (Z == 0) = false := by rw [beq_eq_false_iff_ne]; exact hz
      by_cases h0 : t = 0
      · by_cases hz1' : Z = 1
        · have CI := hide (ixb_any ⟨#[32, 35]⟩ B)
          have hx := ix_two B hB0 hB1
          have HG1 : Hid (¬ (B = 32 ∨ B = 35) → atL (nums s) T ((Z == 1) && decide ((nums s).getD (T - 1) 0 = 32)) (out ++ [B])) := fun h => unhide HGO hz (fun h' => h h'.2.2)
          have HE1 : Hid ((B = 32 ∨ B = 35) → ∀ a r, rvOk (nums s) a r false) := fun h => unhide HEE (.inr ⟨h0, hz1', h⟩)
          clear HGO HEE hz hz'
          subst h0
          rw [ByteArray.extract_zero_size] at CR
          subst hz1'
          by_cases hbb : B = 32 ∨ B = 35
          · have HE := hide (unhide HE1 hbb)
            rw [decide_eq_true hbb, decide_eq_true_eq] at hx
            clear HG1 HE1 hbb hT wT
            generalize Lib.indexByte _ _ = q at *
            go_wp2_with (first
              | (go_at_call 185; refine (unhide CI w2).mono ?_; rintro e w3 ⟨rfl, rfl⟩)
              | (go_at_call 184; refine (unhide CR).mono ?_; rintro e w2 ⟨rfl, b2⟩; have O2 := hide ((unhide HO).below b2); have hb2 := hb.trans (b2.mono hsz); have hs2 := hb2.size))
            simp only [Exit.jump]
            go_ret3
            exact ⟨_, _, _, rfl, unhide HE _ _, hb2⟩
          · have HG := hide (unhide HG1 hbb)
            rw [decide_eq_false hbb, decide_eq_false_iff_not] at hx
            clear HG1 HE1 hbb
            generalize Lib.indexByte _ _ = q at *
            obtain rfl : T = 1 := by omega
            go_wp2_with (first
              | (at_builtin; refine wpList_append_lies _ rfl _ _ 84 rfl w.heap.size 5 i0 _ 1 1 Tryz.underlying84 hi hz0 hz1 hz2 rfl (by omega) _ N _ rfl (World.ownsRow.alloc (Ob.own (unhide HN) (unhide O2)) _) ⟨w2.heap.size, 0, none⟩ 1 1 [.int .u8 B] rfl rfl (World.news_of_block (cs := #[.int .u8 B]) (t := 5) (fr := (0, 0)) (heap_new w2 _)) (by simp [Value.oneCell']) (by omega) hm1 hm2 (by simp; omega) (w2.heap.size + 1) (by simp) ?_; intro g9 cap9 w9 hown9 hgrow9 hat9 hlt9)
              | (go_at_call 185; refine (unhide CI w2).mono ?_; rintro e w3 ⟨rfl, rfl⟩)
              | (go_at_call 184; refine (unhide CR).mono ?_; rintro e w2 ⟨rfl, b2⟩; have O2 := hide ((unhide HO).below b2); have hb2 := hb.trans (b2.mono hsz); have hs2 := hb2.size))
            go_step3
            refine ⟨rfl, ⟨_, 1, _, out ++ [B], Frv.of rfl rfl rfl rfl rfl rfl, hTs, by rw [List.length_append, ← unhide HN]; simp; omega, fun _ => by omega, ?_, Ob.push (unhide HN) (Z := [B]) rfl hown9, hb2.trans (below_own (grown_new hgrow9) hs2 (own_block (Ob.own (unhide HN) (unhide O2))))⟩, ?_⟩
            · exact unhide HG
            · simp [muv, intOf]
              omega
        · have HG := hide (unhide HGO hz (fun h => hz1' h.2.1))
          have hz1'' : (Z == 1) = false := by rw [beq_eq_false_iff_ne]; exact hz1'
          clear HGO HEE
          subst h0
          rw [ByteArray.extract_zero_size] at CR
          have hT' : Z = (T : Int) := by omega
          subst hT'
          rw [hz1''] at HG
          go_wp2_with (first
            | (at_builtin; refine wpList_append_lies _ rfl _ _ 84 rfl w.heap.size 5 i0 _ 1 1 Tryz.underlying84 hi hz0 hz1 hz2 rfl (by omega) _ N _ rfl (World.ownsRow.alloc (Ob.own (unhide HN) (unhide O2)) _) ⟨w2.heap.size, 0, none⟩ 1 1 [.int .u8 B] rfl rfl (World.news_of_block (cs := #[.int .u8 B]) (t := 5) (fr := (0, 0)) (heap_new w2 _)) (by simp [Value.oneCell']) (by omega) hm1 hm2 (by simp; omega) (w2.heap.size + 1) (by simp) ?_; intro g9 cap9 w9 hown9 hgrow9 hat9 hlt9)
            | (go_at_call 184; refine (unhide CR).mono ?_; rintro e w2 ⟨rfl, b2⟩; have O2 := hide ((unhide HO).below b2); have hb2 := hb.trans (b2.mono hsz); have hs2 := hb2.size))
          go_step3
          refine ⟨rfl, ⟨_, T, _, out ++ [B], Frv.of rfl rfl rfl rfl rfl rfl, hTs, by rw [List.length_append, ← unhide HN]; simp; omega, fun _ => by omega, ?_, Ob.push (unhide HN) (Z := [B]) rfl hown9, hb2.trans (below_own (grown_new hgrow9) hs2 (own_block (Ob.own (unhide HN) (unhide O2))))⟩, ?_⟩
          · exact unhide HG
          · simp [muv, intOf]
            omega
      · have HG := hide (unhide HGO hz (fun h => by omega))
        have zk : ¬ (t : Int) = 0 := by omega
        have zk' : ((t : Int) == 0) = false := by rw [beq_eq_false_iff_ne]; exact zk
        clear HGO HEE
        go_wp2_with (first
          | (at_builtin; refine wpList_append_lies _ rfl _ _ 84 rfl w.heap.size 5 i0 _ 1 1 Tryz.underlying84 hi hz0 hz1 hz2 rfl (by omega) _ N _ rfl (World.ownsRow.alloc (Ob.own (unhide HN) (unhide O2)) _) ⟨w2.heap.size, 0, none⟩ 1 1 [.int .u8 B] rfl rfl (World.news_of_block (cs := #[.int .u8 B]) (t := 5) (fr := (0, 0)) (heap_new w2 _)) (by simp [Value.oneCell']) (by omega) hm1 hm2 (by simp; omega) (w2.heap.size + 1) (by simp) ?_; intro g9 cap9 w9 hown9 hgrow9 hat9 hlt9)
          | (go_at_call 184; refine (unhide CR).mono ?_; rintro e w2 ⟨rfl, b2⟩; have O2 := hide ((unhide HO).below b2); have hb2 := hb.trans (b2.mono hsz); have hs2 := hb2.size))
        go_step3
        refine ⟨rfl, ⟨_, T, _, out ++ [B], Frv.of rfl rfl rfl rfl rfl rfl, hTs, by rw [List.length_append, ← unhide HN]; simp; omega, fun _ => by omega, ?_, Ob.push (unhide HN) (Z := [B]) rfl hown9, hb2.trans (below_own (grown_new hgrow9) hs2 (own_block (Ob.own (unhide HN) (unhide O2))))⟩, ?_⟩
        · exact unhide HG
        · simp [muv, intOf]
          omega
    · rw [Bool.true_and] at HA
      have ht0 := hbt rfl
      clear hbt
      by_cases hte : t = s.size
      · have HV := hide (atL_end (unhide HA) (.inl (by omega)))
        subst hte
        have hm : s.size - 1 < s.size := by omega
        have zm0 : (0 : Int) ≤ (s.size : Int) - 1 := by omega
        have zml : (s.size : Int) - 1 < (s.size : Int) := by omega
        obtain ⟨p, hp⟩ : ∃ p : Int, (s[s.size - 1].toNat : Int) = p := ⟨_, rfl⟩
        have hq : (nums s).getD (s.size - 1) 0 = p := by rw [nums_at s _ hm]; exact hp
        rw [hq] at HV
        clear hq
        by_cases h32 : p = 32
        · have HE : Hid (∀ a r, rvOk (nums s) a r false) := fun a r => rv_none (by rw [unhide HV, decide_eq_true h32]; rfl) a r
          clear HV HA
          subst h32
          go_wp2
          go_quiet (fail)
          go_wp2
          simp only [Exit.jump]
          go_ret3
          exact ⟨_, _, _, rfl, unhide HE _ _, below_drewN hb _⟩
        · have HE : Hid (rvOk (nums s) (strOfNums out) (ByteArray.empty) true) := rv_some (by rw [unhide HV, decide_eq_false h32]; rfl) (by rw [List.drop_eq_nil_of_le (by omega)]; rfl)
          have h32' : (p == 32) = false := by rw [beq_eq_false_iff_ne]; exact h32
          clear HV HA h32
          go_wp2
          go_quiet (fail)
          go_wp2
          simp only [Exit.jump]
          go_ret3
          exact ⟨_, _, _, rfl, unhide HE, below_drewN hb _⟩
      obtain ⟨m, rfl⟩ : ∃ m, t = m + 1 := ⟨t - 1, by omega⟩
      have hm : m < s.size := by omega
      have wm : IntKind.i64.wrap ((m : Int) + 1 - 1) = (m : Int) := by rw [show (m : Int) + 1 - 1 = (m : Int) by omega]; exact wrap_in (by omega) (by omega)
      have zm0 : (0 : Int) ≤ (m : Int) := by omega
      have zml : (m : Int) < (s.size : Int) := by omega
      obtain ⟨p, hp⟩ : ∃ p : Int, (s[m].toNat : Int) = p := ⟨_, rfl⟩
      have hq : (nums s).getD (m + 1 - 1) 0 = p := by rw [Nat.add_sub_cancel, nums_at s m hm]; exact hp
      have hlt : m + 1 < s.size := by omega
      have zlt : ((m : Int) + 1) < (s.size : Int) := by omega
      have zne : ¬ ((m : Int) + 1) = (s.size : Int) := by omega
      have zne' : (((m : Int) + 1) == (s.size : Int)) = false := by rw [beq_eq_false_iff_ne]; exact zne
      obtain ⟨c, hc⟩ : ∃ c : Int, (s[m + 1].toNat : Int) = c := ⟨_, rfl⟩
      have hat : (nums s).getD (m + 1) 0 = c := by rw [nums_at s (m + 1) hlt]; exact hc
      by_cases h44 : c = 44
      · have HV := hide (atL_end (unhide HA) (.inr (.inl (by rw [hat]; exact h44))))
        rw [hq] at HV
        clear hat
        clear hq
        subst h44
        by_cases h32 : p = 32
        · have HE : Hid (∀ a r, rvOk (nums s) a r false) := fun a r => rv_none (by rw [unhide HV, decide_eq_true h32]; rfl) a r
          clear HV HA
          subst h32
          go_wp2
          go_quiet (fail)
          go_wp2
          simp only [Exit.jump]
          go_ret3
          exact ⟨_, _, _, rfl, unhide HE _ _, below_drewN hb _⟩
        · have HE : Hid (rvOk (nums s) (strOfNums out) (s.extract (m + 1) s.size) true) := rv_some (by rw [unhide HV, decide_eq_false h32]; rfl) (unhide HD)
          have h32' : (p == 32) = false := by rw [beq_eq_false_iff_ne]; exact h32
          clear HV HA h32
          go_wp2
          go_quiet (fail)
          go_wp2
          simp only [Exit.jump]
          go_ret3
          exact ⟨_, _, _, rfl, unhide HE, below_drewN hb _⟩
      have h44' : (c == 44) = false := by rw [beq_eq_false_iff_ne]; exact h44
      by_cases h43 : c = 43
      · have HV := hide (atL_end (unhide HA) (.inr (.inr (by rw [hat]; exact h43))))
        rw [hq] at HV
        clear hat
        clear hq
        subst h43
        by_cases h32 : p = 32
        · have HE : Hid (∀ a r, rvOk (nums s) a r false) := fun a r => rv_none (by rw [unhide HV, decide_eq_true h32]; rfl) a r
          clear HV HA
          subst h32
          go_wp2
          go_quiet (fail)
          go_wp2
          simp only [Exit.jump]
          go_ret3
          exact ⟨_, _, _, rfl, unhide HE _ _, below_drewN hb _⟩
        · have HE : Hid (rvOk (nums s) (strOfNums out) (s.extract (m + 1) s.size) true) := rv_some (by rw [unhide HV, decide_eq_false h32]; rfl) (unhide HD)
          have h32' : (p == 32) = false := by rw [beq_eq_false_iff_ne]; exact h32
          clear HV HA h32
          go_wp2
          go_quiet (fail)
          go_wp2
          simp only [Exit.jump]
          go_ret3
          exact ⟨_, _, _, rfl, unhide HE, below_drewN hb _⟩
      have h43' : (c == 43) = false := by rw [beq_eq_false_iff_ne]; exact h43
      clear hat
      obtain ⟨B, Z, hr, hB0, hB1, hZ0, hZ3, hZl, hNO, hST⟩ := rd_facts s (m + 1) _ out (unhide HA) hlt c hc h44 h43
      have CR := hide (rbyte_any (s.extract (m + 1) s.size) wl (hL.keep hb) (by rw [ByteArray.size_extract]; omega))
      rw [nums_drop s (m + 1), hr] at CR
      simp only at CR
      clear hr HA HD cv cvN
      obtain ⟨N, hN⟩ : ∃ N, N = out.length := ⟨_, rfl⟩
      have HN := hide hN
      rw [← hN] at hol
      have hm1 : N + 1 ≤ maxLen := by unfold maxLen; omega
      have hm2 : (N + 1) * 1 ≤ 140737488355328 := by omega
      obtain ⟨T, hT⟩ : ∃ T : Nat, ((m : Int) + 1) + Z = (T : Int) := ⟨(((m : Int) + 1) + Z).toNat, by omega⟩
      have wT : IntKind.i64.wrap (((m : Int) + 1) + Z) = (T : Int) := by rw [hT]; exact wrap_in (by omega) (by omega)
      have hTs : T ≤ s.size := by omega
      have HGO : Hid (Z ≠ 0 → ¬ (m + 1 = 0 ∧ Z = 1 ∧ (B = 32 ∨ B = 35)) → atL (nums s) T ((Z == 1) && decide ((nums s).getD (T - 1) 0 = 32)) (out ++ [B])) := fun h2 h3 => hST h2 h3 T (by omega)
      have HEE := hide hNO
      clear hNO hST hN
      by_cases hz : Z = 0
      · have HE := hide (unhide HEE (.inl hz))
        subst hz
        clear HGO HEE hT wT
        go_wp2_with (first
          | (go_at_call 184; refine (unhide CR).mono ?_; rintro e w2 ⟨rfl, b2⟩; have O2 := hide ((unhide HO).below b2); have hb2 := hb.trans (b2.mono hsz); have hs2 := hb2.size))
        simp only [Exit.jump]
        go_ret3
        exact ⟨_, _, _, rfl, unhide HE _ _, hb2⟩
      have hz' : (Z == 0) = false := by rw [beq_eq_false_iff_ne]; exact hz
      have HG := hide (unhide HGO hz (fun h => by omega))
      have zk : ¬ ((m : Int) + 1) = 0 := by omega
      have zk' : (((m : Int) + 1) == 0) = false := by rw [beq_eq_false_iff_ne]; exact zk
      clear HGO HEE
      go_wp2_with (first
        | (at_builtin; refine wpList_append_lies _ rfl _ _ 84 rfl w.heap.size 5 i0 _ 1 1 Tryz.underlying84 hi hz0 hz1 hz2 rfl (by omega) _ N _ rfl (World.ownsRow.alloc (Ob.own (unhide HN) (unhide O2)) _) ⟨w2.heap.size, 0, none⟩ 1 1 [.int .u8 B] rfl rfl (World.news_of_block (cs := #[.int .u8 B]) (t := 5) (fr := (0, 0)) (heap_new w2 _)) (by simp [Value.oneCell']) (by omega) hm1 hm2 (by simp; omega) (w2.heap.size + 1) (by simp) ?_; intro g9 cap9 w9 hown9 hgrow9 hat9 hlt9)
        | (go_at_call 184; refine (unhide CR).mono ?_; rintro e w2 ⟨rfl, b2⟩; have O2 := hide ((unhide HO).below b2); have hb2 := hb.trans (b2.mono hsz); have hs2 := hb2.size))
      go_step3
      refine ⟨rfl, ⟨_, T, _, out ++ [B], Frv.of rfl rfl rfl rfl rfl rfl, hTs, by rw [List.length_append, ← unhide HN]; simp; omega, fun _ => by omega, ?_, Ob.push (unhide HN) (Z := [B]) rfl hown9, hb2.trans (below_own (grown_new hgrow9) hs2 (own_block (Ob.own (unhide HN) (unhide O2))))⟩, ?_⟩
      · exact unhide HG
      · simp [muv, intOf]
        omega
  · intro hfirst
    have HF := hide hfirst
    clear hfirst
    go_wp2
    go_step3
    rename_i HK
    refine HK _ _ ?_
    exact unhide HF _ _ ⟨_, 0, false, [], Frv.of rfl rfl rfl rfl rfl rfl, Nat.zero_le _, Nat.le_refl _, (fun h => nomatch h), atL_start _, Ob.nil _ _, Below.refl _ _⟩
end Go.Proofs.YtefobkgifigclaaGreatDoor.S18
