/- The landed appendItem of layer 24. (By gen_ai.py.) -/
import Derived.Test.YthbldkkjjjmegaaGreatDoorM39
import Derived.Test.YthbldkkjjjmegaaGreatDoorM21
import Derived.Lib.AppendStr
namespace Go.Proofs.YthbldkkjjjmegaaGreatDoor
set_option maxRecDepth 100000
open Go.RowKit

/-- What stands between the brackets of a filter without kids. -/
def itemT (k : Int) (n v i : ByteArray) (a : List ByteArray) (f r : ByteArray) (d : Bool) : List Int :=
  nums n ++ ((if d = true then [58, 100, 110] else []) ++ ((if r = ⟨#[]⟩ then [] else 58 :: nums r) ++ (nums (sgO k) ++ (if k = 7 then [42] else if k = 4 then starT i a f else vTxt (nums v)))))
theorem sgO_size (k : Int) : (sgO k).size ≤ 2 := by
  unfold sgO
  split
  · decide
  · split
    · decide
    · split
      · decide
      · split <;> decide
section
variable {P : Program} {w : World}
theorem step_append_str {ops : Array Oper} {o : Oper} {a : Act} {K : Act → World → Prop} {Q : Exit → Act → World → Prop} {E : Prop} (hgd : o.guard = none) (sl x : Operand) (t u : TypeId)
    (ho : o.op = .call { callee := .builtin .append, args := #[sl, x], argTypes := #[t, u] })
    (base : Nat) (e : TypeId) (i : TypeInfo) (ht : P.underlying t = some (.slice e)) (hu : P.underlying u = some .string) (hi : P.info? e = some i) (hz : i.zero = some (.int .u8 0))
    (hsize : i.size = 1) (hby : i.bytes = 1)
    (v : Value) (n : Nat) (xs : List Value) (hs : a.eval sl = v) (hown : w.ownsRow base e 1 v n xs) (s : ByteArray) (hx : a.eval x = .string s)
    (h63 : n + s.size ≤ maxLen) (hbytes : n + s.size ≤ 140737488355328) (hbase : base ≤ w.heap.size)
    (h : ∀ v' w', w'.ownsRow base e 1 v' (n + s.size) (xs ++ Lib.strCells s) → w.grownBy w' v.ownBlock → K (a.put o.dst v') w') :
    if Region.wanted o (yielded ops a.tmps) = true then Oper.wp P o a w K Q else E := by
  have hw : Region.wanted o (yielded ops a.tmps) = true := by simp [Region.wanted, hgd]
  rw [if_pos hw]
  obtain ⟨v', w', hr, h2, h3, -⟩ := Lib.run_append_own_string (P := P) w base t u o.type e i ht hu hi hz hsize hby v n xs hown s h63 hbytes hbase
  unfold Oper.wp execOp
  simp only [ho, resolve, invoke, builtin, Sem.run_bind, Sem.run_pure, Result.andThen_ok, List.map_toArray, List.map_cons, List.map_nil, hs, hx, hr]
  exact h v' w' h2 h3
end
theorem app_empty (l : List Int) : l ++ [] = l := List.append_nil l
set_option maxRecDepth 4000 in
set_option maxHeartbeats 12800000 in
theorem aitem_any (w0 : World) (hL : Ly w0) (Y : List Int) (v0 : Value) (k : Int) (n v i : ByteArray) (a : List ByteArray) (f : ByteArray) (hi' hf' : Bool) (r : ByteArray) (d : Bool) (kids : List Fl) (x : Value) (w : World) (hV : FlV w0 (.mk k n v i a f hi' hf' r d kids) x) (hb : Below w0.heap.size w0 w) (hO : Ob w0.heap.size v0 Y w)
    (hl : Y.length + (n.size + r.size + 3 * v.size + 3 * (i.size + f.size) + 3 * (a.map ByteArray.size).sum + a.length + 10) ≤ 1000000) :
    Calls Tryz.prog 32 #[v0, x] w fun e w' => ∃ v2, e = .returned v2 ∧ Ap w0.heap.size w v2 (Y ++ itemT k n v i a f r d) w' := by
  obtain ⟨i0, hi, hz0, hz1, hz2⟩ := info_parts u8_info
  simp only [FlV] at hV
  obtain ⟨a1, c1, a2, c2, rfl, hT, -, -⟩ := hV
  have hB : w0.heap.size ≤ w.heap.size := hb.size
  have B1 := Below.one w (.cells (cFl k n v i a1 a.length c1 f hi' hf' r d a2 kids.length c2) 27)
  have HBX := heap_new w (.cells (cFl k n v i a1 a.length c1 f hi' hf' r d a2 kids.length c2) 27)
  have hB1 := Nat.le_trans hB B1.size
  have tb := hb.trans (B1.mono hB)
  have L0 := hide (Ap.start (hO.below B1))
  have CS := hide (fun (W : World) (h : Below w0.heap.size w0 W) => sign_any k W (hL.keep h))
  have CA := hide (fun (Z : List Int) (u : Value) (W : World) (hO : Ob w0.heap.size u Z W) (h1 : w0.heap.size ≤ W.heap.size) (h2 : Z.length + 3 * v.size ≤ 1000000) => appv_any w0.heap.size Z u v W hO h1 (by omega))
  have CP := hide (fun (Z : List Int) (u : Value) (W : World) (hO : Ob w0.heap.size u Z W) (h1 : Below w0.heap.size w0 W) (h2 : Z.length + 3 * (i.size + f.size) + 3 * (a.map ByteArray.size).sum + a.length + 1 ≤ 1000000) => appp_any w0 Z u i f hi' hf' a a1 c1 W hT h1 hO h2)
  have hsg := sgO_size k
  have HL0 := hide hl
  obtain ⟨m0, m1, m2, m3, m4, m5, m6, m7, m8, m9, m10⟩ := cells11 HBX
  clear hT hO hL hb

  by_cases hd : d = true
  · by_cases hr : r = ⟨#[]⟩
    · by_cases h7 : k = 7
      · have HIT : Hid (itemT k n v i a f r d = nums n ++ (nums (⟨#[58, 100, 110]⟩ : ByteArray) ++ (((nums (sgO k) ++ ([42])))))) := by
          show _ = _
          unfold itemT
          rw [if_pos hd, if_pos hr, if_pos h7]
          rfl
        have er : r.toList.isEmpty = true := by rw [emp_sz, decide_eq_true]; rw [hr]; rfl
        obtain rfl : d = true := hd
        clear hr
        have z7 : (k == 7) = true := by rw [h7]; rfl
        clear h7
        obtain ⟨N0, hN0⟩ : ∃ N, N = (Y).length := ⟨_, rfl⟩
        have HN0 := hide hN0
        have a01 : N0 + n.size ≤ maxLen := by
          rw [hN0]
          (repeat rw [List.length_append]); (repeat rw [nums_length])
          have := hsg
          have l3 : (⟨#[58, 100, 110]⟩ : ByteArray).size = 3 := rfl
          unfold maxLen
          omega
        have a02 : N0 + n.size ≤ 140737488355328 := by
          rw [hN0]
          (repeat rw [List.length_append]); (repeat rw [nums_length])
          have := hsg
          have l3 : (⟨#[58, 100, 110]⟩ : ByteArray).size = 3 := rfl
          omega
        obtain ⟨N1, hN1⟩ : ∃ N, N = (Y ++ nums n).length := ⟨_, rfl⟩
        have HN1 := hide hN1
        have a11 : N1 + (⟨#[58, 100, 110]⟩ : ByteArray).size ≤ maxLen := by
          rw [hN1]
          (repeat rw [List.length_append]); (repeat rw [nums_length])
          have := hsg
          have l3 : (⟨#[58, 100, 110]⟩ : ByteArray).size = 3 := rfl
          unfold maxLen
          omega
        have a12 : N1 + (⟨#[58, 100, 110]⟩ : ByteArray).size ≤ 140737488355328 := by
          rw [hN1]
          (repeat rw [List.length_append]); (repeat rw [nums_length])
          have := hsg
          have l3 : (⟨#[58, 100, 110]⟩ : ByteArray).size = 3 := rfl
          omega
        obtain ⟨N2, hN2⟩ : ∃ N, N = (Y ++ nums n ++ nums (⟨#[58, 100, 110]⟩ : ByteArray)).length := ⟨_, rfl⟩
        have HN2 := hide hN2
        have a21 : N2 + (sgO k).size ≤ maxLen := by
          rw [hN2]
          (repeat rw [List.length_append]); (repeat rw [nums_length])
          have := hsg
          have l3 : (⟨#[58, 100, 110]⟩ : ByteArray).size = 3 := rfl
          unfold maxLen
          omega
        have a22 : N2 + (sgO k).size ≤ 140737488355328 := by
          rw [hN2]
          (repeat rw [List.length_append]); (repeat rw [nums_length])
          have := hsg
          have l3 : (⟨#[58, 100, 110]⟩ : ByteArray).size = 3 := rfl
          omega
        obtain ⟨N9, hN9⟩ : ∃ N, N = (Y ++ nums n ++ nums (⟨#[58, 100, 110]⟩ : ByteArray) ++ nums (sgO k)).length := ⟨_, rfl⟩
        have HN9 := hide hN9
        have b91 : N9 + 1 ≤ maxLen := by
          rw [hN9]
          (repeat rw [List.length_append]); (repeat rw [nums_length])
          have := hsg
          have l3 : (⟨#[58, 100, 110]⟩ : ByteArray).size = 3 := rfl
          unfold maxLen
          omega
        have b92 : (N9 + 1) * 1 ≤ 140737488355328 := by
          rw [hN9]
          (repeat rw [List.length_append]); (repeat rw [nums_length])
          have := hsg
          have l3 : (⟨#[58, 100, 110]⟩ : ByteArray).size = 3 := rfl
          omega
        clear hl hsg hN0 hN1 hN2 hN9
        go_enter Tryz.func32, Tryz.ntmps32
        go_wp2_with (first
          | (at_builtin; refine wpList_append_lies _ rfl _ _ 44 rfl w0.heap.size 5 i0 _ 1 1 Tryz.underlying44 hi hz0 hz1 hz2 rfl (by omega) _ N9 _ rfl (World.ownsRow.alloc (Ob.own (unhide HN9) (unhide L9).own) _) ⟨w9.heap.size, 0, none⟩ 1 1 [.int .u8 42] rfl rfl (World.news_of_block (cs := #[.int .u8 42]) (t := 5) (fr := (0, 0)) (heap_new w9 _)) (by simp [Value.oneCell']) (by omega) b91 b92 (by have z := (unhide L9).big hB1; simp; omega) (w9.heap.size + 1) (by simp) ?_; intro g10 cap10 w10 hown10 hgrow10 hat10 hlt10; have L10 := hide ((unhide L9).step hB1 (grown_new hgrow10) (Ob.push (unhide HN9) (Z := [42]) rfl hown10)))
          | (at_builtin; refine Lib.wpList_append_own_string _ rfl _ _ 44 9 rfl w0.heap.size 5 i0 Tryz.underlying44 Tryz.underlying9 hi hz0 hz1 hz2 _ N2 _ rfl (Ob.own (unhide HN2) (unhide L8).own) (sgO k) rfl a21 a22 ((unhide L8).big hB1) ?_; intro v9 w9 hown hgrow hnil; clear hnil; have L9 := hide ((unhide L8).step hB1 hgrow (Ob.push_str (unhide HN2) hown)); clear hown hgrow; obtain ⟨m0, m1, m2, m3, m4, m5, m6, m7, m8, m9, m10⟩ := cells11 ((unhide L9).kp _ _ _ HBX (by decide)))
          | (go_at_call 48; refine (unhide CS _ (tb.trans (unhide L2).bel)).mono ?_; rintro e w8 ⟨rfl, g8⟩; have L8 := hide ((unhide L2).grow hB1 g8.below))
          | (at_builtin; refine Lib.wpList_append_own_string _ rfl _ _ 44 9 rfl w0.heap.size 5 i0 Tryz.underlying44 Tryz.underlying9 hi hz0 hz1 hz2 _ N1 _ rfl (Ob.own (unhide HN1) (unhide L1).own) (⟨#[58, 100, 110]⟩ : ByteArray) rfl a11 a12 ((unhide L1).big hB1) ?_; intro v2 w2 hown hgrow hnil; clear hnil; have L2 := hide ((unhide L1).step hB1 hgrow (Ob.push_str (unhide HN1) hown)); clear hown hgrow; obtain ⟨m0, m1, m2, m3, m4, m5, m6, m7, m8, m9, m10⟩ := cells11 ((unhide L2).kp _ _ _ HBX (by decide)))
          | (at_builtin; refine Lib.wpList_append_own_string _ rfl _ _ 44 9 rfl w0.heap.size 5 i0 Tryz.underlying44 Tryz.underlying9 hi hz0 hz1 hz2 _ N0 _ rfl (Ob.own (unhide HN0) (unhide L0).own) n rfl a01 a02 (hB1) ?_; intro v1 w1 hown hgrow hnil; clear hnil; have L1 := hide ((unhide L0).step hB1 hgrow (Ob.push_str (unhide HN0) hown)); clear hown hgrow; obtain ⟨m0, m1, m2, m3, m4, m5, m6, m7, m8, m9, m10⟩ := cells11 ((unhide L1).kp _ _ _ HBX (by decide))))
        go_ret
        refine ⟨_, rfl, ?_⟩
        have z := (unhide L10).off (B := w0.heap.size) (w := w) hB B1
        rw [unhide HIT]
        simp only [List.append_assoc] at z ⊢
        exact z
      have z7 : (k == 7) = false := by rw [beq_eq_false_iff_ne]; exact h7
      by_cases h4k : k = 4
      · have HIT : Hid (itemT k n v i a f r d = nums n ++ (nums (⟨#[58, 100, 110]⟩ : ByteArray) ++ (((nums (sgO k) ++ (starT i a f)))))) := by
          show _ = _
          unfold itemT
          rw [if_pos hd, if_pos hr, if_neg h7, if_pos h4k]
          rfl
        have er : r.toList.isEmpty = true := by rw [emp_sz, decide_eq_true]; rw [hr]; rfl
        obtain rfl : d = true := hd
        clear hr
        have z4 : (k == 4) = true := by rw [h4k]; rfl
        clear h7 h4k
        obtain ⟨N0, hN0⟩ : ∃ N, N = (Y).length := ⟨_, rfl⟩
        have HN0 := hide hN0
        have a01 : N0 + n.size ≤ maxLen := by
          rw [hN0]
          (repeat rw [List.length_append]); (repeat rw [nums_length])
          have := hsg
          have l3 : (⟨#[58, 100, 110]⟩ : ByteArray).size = 3 := rfl
          unfold maxLen
          omega
        have a02 : N0 + n.size ≤ 140737488355328 := by
          rw [hN0]
          (repeat rw [List.length_append]); (repeat rw [nums_length])
          have := hsg
          have l3 : (⟨#[58, 100, 110]⟩ : ByteArray).size = 3 := rfl
          omega
        obtain ⟨N1, hN1⟩ : ∃ N, N = (Y ++ nums n).length := ⟨_, rfl⟩
        have HN1 := hide hN1
        have a11 : N1 + (⟨#[58, 100, 110]⟩ : ByteArray).size ≤ maxLen := by
          rw [hN1]
          (repeat rw [List.length_append]); (repeat rw [nums_length])
          have := hsg
          have l3 : (⟨#[58, 100, 110]⟩ : ByteArray).size = 3 := rfl
          unfold maxLen
          omega
        have a12 : N1 + (⟨#[58, 100, 110]⟩ : ByteArray).size ≤ 140737488355328 := by
          rw [hN1]
          (repeat rw [List.length_append]); (repeat rw [nums_length])
          have := hsg
          have l3 : (⟨#[58, 100, 110]⟩ : ByteArray).size = 3 := rfl
          omega
        obtain ⟨N2, hN2⟩ : ∃ N, N = (Y ++ nums n ++ nums (⟨#[58, 100, 110]⟩ : ByteArray)).length := ⟨_, rfl⟩
        have HN2 := hide hN2
        have a21 : N2 + (sgO k).size ≤ maxLen := by
          rw [hN2]
          (repeat rw [List.length_append]); (repeat rw [nums_length])
          have := hsg
          have l3 : (⟨#[58, 100, 110]⟩ : ByteArray).size = 3 := rfl
          unfold maxLen
          omega
        have a22 : N2 + (sgO k).size ≤ 140737488355328 := by
          rw [hN2]
          (repeat rw [List.length_append]); (repeat rw [nums_length])
          have := hsg
          have l3 : (⟨#[58, 100, 110]⟩ : ByteArray).size = 3 := rfl
          omega
        have h4 : (Y ++ nums n ++ nums (⟨#[58, 100, 110]⟩ : ByteArray) ++ nums (sgO k)).length + 3 * (i.size + f.size) + 3 * (a.map ByteArray.size).sum + a.length + 1 ≤ 1000000 := by
          (repeat rw [List.length_append]); (repeat rw [nums_length])
          have := hsg
          have l3 : (⟨#[58, 100, 110]⟩ : ByteArray).size = 3 := rfl
          omega
        clear hl hsg hN0 hN1 hN2
        go_enter Tryz.func32, Tryz.ntmps32
        go_wp2_with (first
          | (go_at_call 49; refine (unhide CP _ _ _ (unhide L9).own (tb.trans (unhide L9).bel) h4).mono ?_; rintro e w10 ⟨v10, rfl, hA⟩; have L10 := hide ((unhide L9).trans hA); clear hA)
          | (at_builtin; refine Lib.wpList_append_own_string _ rfl _ _ 44 9 rfl w0.heap.size 5 i0 Tryz.underlying44 Tryz.underlying9 hi hz0 hz1 hz2 _ N2 _ rfl (Ob.own (unhide HN2) (unhide L8).own) (sgO k) rfl a21 a22 ((unhide L8).big hB1) ?_; intro v9 w9 hown hgrow hnil; clear hnil; have L9 := hide ((unhide L8).step hB1 hgrow (Ob.push_str (unhide HN2) hown)); clear hown hgrow; obtain ⟨m0, m1, m2, m3, m4, m5, m6, m7, m8, m9, m10⟩ := cells11 ((unhide L9).kp _ _ _ HBX (by decide)))
          | (go_at_call 48; refine (unhide CS _ (tb.trans (unhide L2).bel)).mono ?_; rintro e w8 ⟨rfl, g8⟩; have L8 := hide ((unhide L2).grow hB1 g8.below))
          | (at_builtin; refine Lib.wpList_append_own_string _ rfl _ _ 44 9 rfl w0.heap.size 5 i0 Tryz.underlying44 Tryz.underlying9 hi hz0 hz1 hz2 _ N1 _ rfl (Ob.own (unhide HN1) (unhide L1).own) (⟨#[58, 100, 110]⟩ : ByteArray) rfl a11 a12 ((unhide L1).big hB1) ?_; intro v2 w2 hown hgrow hnil; clear hnil; have L2 := hide ((unhide L1).step hB1 hgrow (Ob.push_str (unhide HN1) hown)); clear hown hgrow; obtain ⟨m0, m1, m2, m3, m4, m5, m6, m7, m8, m9, m10⟩ := cells11 ((unhide L2).kp _ _ _ HBX (by decide)))
          | (at_builtin; refine Lib.wpList_append_own_string _ rfl _ _ 44 9 rfl w0.heap.size 5 i0 Tryz.underlying44 Tryz.underlying9 hi hz0 hz1 hz2 _ N0 _ rfl (Ob.own (unhide HN0) (unhide L0).own) n rfl a01 a02 (hB1) ?_; intro v1 w1 hown hgrow hnil; clear hnil; have L1 := hide ((unhide L0).step hB1 hgrow (Ob.push_str (unhide HN0) hown)); clear hown hgrow; obtain ⟨m0, m1, m2, m3, m4, m5, m6, m7, m8, m9, m10⟩ := cells11 ((unhide L1).kp _ _ _ HBX (by decide))))
        go_ret
        refine ⟨_, rfl, ?_⟩
        have z := (unhide L10).off (B := w0.heap.size) (w := w) hB B1
        rw [unhide HIT]
        simp only [List.append_assoc] at z ⊢
        exact z
      have z4 : (k == 4) = false := by rw [beq_eq_false_iff_ne]; exact h4k
      have HIT : Hid (itemT k n v i a f r d = nums n ++ (nums (⟨#[58, 100, 110]⟩ : ByteArray) ++ (((nums (sgO k) ++ (vTxt (nums v))))))) := by
        show _ = _
        unfold itemT
        rw [if_pos hd, if_pos hr, if_neg h7, if_neg h4k]
        rfl
      have er : r.toList.isEmpty = true := by rw [emp_sz, decide_eq_true]; rw [hr]; rfl
      obtain rfl : d = true := hd
      clear hr
      clear h7 h4k
      obtain ⟨N0, hN0⟩ : ∃ N, N = (Y).length := ⟨_, rfl⟩
      have HN0 := hide hN0
      have a01 : N0 + n.size ≤ maxLen := by
        rw [hN0]
        (repeat rw [List.length_append]); (repeat rw [nums_length])
        have := hsg
        have l3 : (⟨#[58, 100, 110]⟩ : ByteArray).size = 3 := rfl
        unfold maxLen
        omega
      have a02 : N0 + n.size ≤ 140737488355328 := by
        rw [hN0]
        (repeat rw [List.length_append]); (repeat rw [nums_length])
        have := hsg
        have l3 : (⟨#[58, 100, 110]⟩ : ByteArray).size = 3 := rfl
        omega
      obtain ⟨N1, hN1⟩ : ∃ N, N = (Y ++ nums n).length := ⟨_, rfl⟩
      have HN1 := hide hN1
      have a11 : N1 + (⟨#[58, 100, 110]⟩ : ByteArray).size ≤ maxLen := by
        rw [hN1]
        (repeat rw [List.length_append]); (repeat rw [nums_length])
        have := hsg
        have l3 : (⟨#[58, 100, 110]⟩ : ByteArray).size = 3 := rfl
        unfold maxLen
        omega
      have a12 : N1 + (⟨#[58, 100, 110]⟩ : ByteArray).size ≤ 140737488355328 := by
        rw [hN1]
        (repeat rw [List.length_append]); (repeat rw [nums_length])
        have := hsg
        have l3 : (⟨#[58, 100, 110]⟩ : ByteArray).size = 3 := rfl
        omega
      obtain ⟨N2, hN2⟩ : ∃ N, N = (Y ++ nums n ++ nums (⟨#[58, 100, 110]⟩ : ByteArray)).length := ⟨_, rfl⟩
      have HN2 := hide hN2
      have a21 : N2 + (sgO k).size ≤ maxLen := by
        rw [hN2]
        (repeat rw [List.length_append]); (repeat rw [nums_length])
        have := hsg
        have l3 : (⟨#[58, 100, 110]⟩ : ByteArray).size = 3 := rfl
        unfold maxLen
        omega
      have a22 : N2 + (sgO k).size ≤ 140737488355328 := by
        rw [hN2]
        (repeat rw [List.length_append]); (repeat rw [nums_length])
        have := hsg
        have l3 : (⟨#[58, 100, 110]⟩ : ByteArray).size = 3 := rfl
        omega
      have h4 : (Y ++ nums n ++ nums (⟨#[58, 100, 110]⟩ : ByteArray) ++ nums (sgO k)).length + 3 * v.size ≤ 1000000 := by
        (repeat rw [List.length_append]); (repeat rw [nums_length])
        have := hsg
        have l3 : (⟨#[58, 100, 110]⟩ : ByteArray).size = 3 := rfl
        omega
      clear hl hsg hN0 hN1 hN2
      go_enter Tryz.func32, Tryz.ntmps32
      go_wp2_with (first
        | (go_at_call 50; refine (unhide CA _ _ _ (unhide L9).own ((unhide L9).big hB1) h4).mono ?_; rintro e w10 ⟨v10, rfl, hA⟩; have L10 := hide ((unhide L9).trans hA); clear hA)
        | (at_builtin; refine Lib.wpList_append_own_string _ rfl _ _ 44 9 rfl w0.heap.size 5 i0 Tryz.underlying44 Tryz.underlying9 hi hz0 hz1 hz2 _ N2 _ rfl (Ob.own (unhide HN2) (unhide L8).own) (sgO k) rfl a21 a22 ((unhide L8).big hB1) ?_; intro v9 w9 hown hgrow hnil; clear hnil; have L9 := hide ((unhide L8).step hB1 hgrow (Ob.push_str (unhide HN2) hown)); clear hown hgrow; obtain ⟨m0, m1, m2, m3, m4, m5, m6, m7, m8, m9, m10⟩ := cells11 ((unhide L9).kp _ _ _ HBX (by decide)))
        | (go_at_call 48; refine (unhide CS _ (tb.trans (unhide L2).bel)).mono ?_; rintro e w8 ⟨rfl, g8⟩; have L8 := hide ((unhide L2).grow hB1 g8.below))
        | (at_builtin; refine Lib.wpList_append_own_string _ rfl _ _ 44 9 rfl w0.heap.size 5 i0 Tryz.underlying44 Tryz.underlying9 hi hz0 hz1 hz2 _ N1 _ rfl (Ob.own (unhide HN1) (unhide L1).own) (⟨#[58, 100, 110]⟩ : ByteArray) rfl a11 a12 ((unhide L1).big hB1) ?_; intro v2 w2 hown hgrow hnil; clear hnil; have L2 := hide ((unhide L1).step hB1 hgrow (Ob.push_str (unhide HN1) hown)); clear hown hgrow; obtain ⟨m0, m1, m2, m3, m4, m5, m6, m7, m8, m9, m10⟩ := cells11 ((unhide L2).kp _ _ _ HBX (by decide)))
        | (at_builtin; refine Lib.wpList_append_own_string _ rfl _ _ 44 9 rfl w0.heap.size 5 i0 Tryz.underlying44 Tryz.underlying9 hi hz0 hz1 hz2 _ N0 _ rfl (Ob.own (unhide HN0) (unhide L0).own) n rfl a01 a02 (hB1) ?_; intro v1 w1 hown hgrow hnil; clear hnil; have L1 := hide ((unhide L0).step hB1 hgrow (Ob.push_str (unhide HN0) hown)); clear hown hgrow; obtain ⟨m0, m1, m2, m3, m4, m5, m6, m7, m8, m9, m10⟩ := cells11 ((unhide L1).kp _ _ _ HBX (by decide))))
      go_ret
      refine ⟨_, rfl, ?_⟩
      have z := (unhide L10).off (B := w0.heap.size) (w := w) hB B1
      rw [unhide HIT]
      simp only [List.append_assoc] at z ⊢
      exact z
    · by_cases h7 : k = 7
      · have HIT : Hid (itemT k n v i a f r d = nums n ++ (nums (⟨#[58, 100, 110]⟩ : ByteArray) ++ (nums (⟨#[58]⟩ : ByteArray) ++ (nums r ++ (nums (sgO k) ++ ([42])))))) := by
          show _ = _
          unfold itemT
          rw [if_pos hd, if_neg hr, if_pos h7]
          rfl
        have er : r.toList.isEmpty = false := by rw [emp_sz, decide_eq_false]; intro h; exact hr ((sz0 r).1 h)
        obtain rfl : d = true := hd
        clear hr
        have z7 : (k == 7) = true := by rw [h7]; rfl
        clear h7
        obtain ⟨N0, hN0⟩ : ∃ N, N = (Y).length := ⟨_, rfl⟩
        have HN0 := hide hN0
        have a01 : N0 + n.size ≤ maxLen := by
          rw [hN0]
          (repeat rw [List.length_append]); (repeat rw [nums_length])
          have := hsg
          have l3 : (⟨#[58, 100, 110]⟩ : ByteArray).size = 3 := rfl
          have l1 : (⟨#[58]⟩ : ByteArray).size = 1 := rfl
          unfold maxLen
          omega
        have a02 : N0 + n.size ≤ 140737488355328 := by
          rw [hN0]
          (repeat rw [List.length_append]); (repeat rw [nums_length])
          have := hsg
          have l3 : (⟨#[58, 100, 110]⟩ : ByteArray).size = 3 := rfl
          have l1 : (⟨#[58]⟩ : ByteArray).size = 1 := rfl
          omega
        obtain ⟨N1, hN1⟩ : ∃ N, N = (Y ++ nums n).length := ⟨_, rfl⟩
        have HN1 := hide hN1
        have a11 : N1 + (⟨#[58, 100, 110]⟩ : ByteArray).size ≤ maxLen := by
          rw [hN1]
          (repeat rw [List.length_append]); (repeat rw [nums_length])
          have := hsg
          have l3 : (⟨#[58, 100, 110]⟩ : ByteArray).size = 3 := rfl
          have l1 : (⟨#[58]⟩ : ByteArray).size = 1 := rfl
          unfold maxLen
          omega
        have a12 : N1 + (⟨#[58, 100, 110]⟩ : ByteArray).size ≤ 140737488355328 := by
          rw [hN1]
          (repeat rw [List.length_append]); (repeat rw [nums_length])
          have := hsg
          have l3 : (⟨#[58, 100, 110]⟩ : ByteArray).size = 3 := rfl
          have l1 : (⟨#[58]⟩ : ByteArray).size = 1 := rfl
          omega
        obtain ⟨N2, hN2⟩ : ∃ N, N = (Y ++ nums n ++ nums (⟨#[58, 100, 110]⟩ : ByteArray)).length := ⟨_, rfl⟩
        have HN2 := hide hN2
        have a21 : N2 + (⟨#[58]⟩ : ByteArray).size ≤ maxLen := by
          rw [hN2]
          (repeat rw [List.length_append]); (repeat rw [nums_length])
          have := hsg
          have l3 : (⟨#[58, 100, 110]⟩ : ByteArray).size = 3 := rfl
          have l1 : (⟨#[58]⟩ : ByteArray).size = 1 := rfl
          unfold maxLen
          omega
        have a22 : N2 + (⟨#[58]⟩ : ByteArray).size ≤ 140737488355328 := by
          rw [hN2]
          (repeat rw [List.length_append]); (repeat rw [nums_length])
          have := hsg
          have l3 : (⟨#[58, 100, 110]⟩ : ByteArray).size = 3 := rfl
          have l1 : (⟨#[58]⟩ : ByteArray).size = 1 := rfl
          omega
        obtain ⟨N3, hN3⟩ : ∃ N, N = (Y ++ nums n ++ nums (⟨#[58, 100, 110]⟩ : ByteArray) ++ nums (⟨#[58]⟩ : ByteArray)).length := ⟨_, rfl⟩
        have HN3 := hide hN3
        have a31 : N3 + r.size ≤ maxLen := by
          rw [hN3]
          (repeat rw [List.length_append]); (repeat rw [nums_length])
          have := hsg
          have l3 : (⟨#[58, 100, 110]⟩ : ByteArray).size = 3 := rfl
          have l1 : (⟨#[58]⟩ : ByteArray).size = 1 := rfl
          unfold maxLen
          omega
        have a32 : N3 + r.size ≤ 140737488355328 := by
          rw [hN3]
          (repeat rw [List.length_append]); (repeat rw [nums_length])
          have := hsg
          have l3 : (⟨#[58, 100, 110]⟩ : ByteArray).size = 3 := rfl
          have l1 : (⟨#[58]⟩ : ByteArray).size = 1 := rfl
          omega
        obtain ⟨N4, hN4⟩ : ∃ N, N = (Y ++ nums n ++ nums (⟨#[58, 100, 110]⟩ : ByteArray) ++ nums (⟨#[58]⟩ : ByteArray) ++ nums r).length := ⟨_, rfl⟩
        have HN4 := hide hN4
        have a41 : N4 + (sgO k).size ≤ maxLen := by
          rw [hN4]
          (repeat rw [List.length_append]); (repeat rw [nums_length])
          have := hsg
          have l3 : (⟨#[58, 100, 110]⟩ : ByteArray).size = 3 := rfl
          have l1 : (⟨#[58]⟩ : ByteArray).size = 1 := rfl
          unfold maxLen
          omega
        have a42 : N4 + (sgO k).size ≤ 140737488355328 := by
          rw [hN4]
          (repeat rw [List.length_append]); (repeat rw [nums_length])
          have := hsg
          have l3 : (⟨#[58, 100, 110]⟩ : ByteArray).size = 3 := rfl
          have l1 : (⟨#[58]⟩ : ByteArray).size = 1 := rfl
          omega
        obtain ⟨N9, hN9⟩ : ∃ N, N = (Y ++ nums n ++ nums (⟨#[58, 100, 110]⟩ : ByteArray) ++ nums (⟨#[58]⟩ : ByteArray) ++ nums r ++ nums (sgO k)).length := ⟨_, rfl⟩
        have HN9 := hide hN9
        have b91 : N9 + 1 ≤ maxLen := by
          rw [hN9]
          (repeat rw [List.length_append]); (repeat rw [nums_length])
          have := hsg
          have l3 : (⟨#[58, 100, 110]⟩ : ByteArray).size = 3 := rfl
          have l1 : (⟨#[58]⟩ : ByteArray).size = 1 := rfl
          unfold maxLen
          omega
        have b92 : (N9 + 1) * 1 ≤ 140737488355328 := by
          rw [hN9]
          (repeat rw [List.length_append]); (repeat rw [nums_length])
          have := hsg
          have l3 : (⟨#[58, 100, 110]⟩ : ByteArray).size = 3 := rfl
          have l1 : (⟨#[58]⟩ : ByteArray).size = 1 := rfl
          omega
        clear hl hsg hN0 hN1 hN2 hN3 hN4 hN9
        go_enter Tryz.func32, Tryz.ntmps32
        go_upto_region 5 with (first
          | (at_builtin; refine Lib.wpList_append_own_string _ rfl _ _ 44 9 rfl w0.heap.size 5 i0 Tryz.underlying44 Tryz.underlying9 hi hz0 hz1 hz2 _ N1 _ rfl (Ob.own (unhide HN1) (unhide L1).own) (⟨#[58, 100, 110]⟩ : ByteArray) rfl a11 a12 ((unhide L1).big hB1) ?_; intro v2 w2 hown hgrow hnil; clear hnil; have L2 := hide ((unhide L1).step hB1 hgrow (Ob.push_str (unhide HN1) hown)); clear hown hgrow; obtain ⟨m0, m1, m2, m3, m4, m5, m6, m7, m8, m9, m10⟩ := cells11 ((unhide L2).kp _ _ _ HBX (by decide)))
          | (at_builtin; refine Lib.wpList_append_own_string _ rfl _ _ 44 9 rfl w0.heap.size 5 i0 Tryz.underlying44 Tryz.underlying9 hi hz0 hz1 hz2 _ N0 _ rfl (Ob.own (unhide HN0) (unhide L0).own) n rfl a01 a02 (hB1) ?_; intro v1 w1 hown hgrow hnil; clear hnil; have L1 := hide ((unhide L0).step hB1 hgrow (Ob.push_str (unhide HN0) hown)); clear hown hgrow; obtain ⟨m0, m1, m2, m3, m4, m5, m6, m7, m8, m9, m10⟩ := cells11 ((unhide L1).kp _ _ _ HBX (by decide))))
        have BK := (unhide L2).kp _ _ _ HBX (by decide)
        have HSS : Hid (∀ W : World, W.heap[w.heap.size]? = some (.cells (cFl k n v i a1 a.length c1 f hi' hf' r true a2 kids.length c2) 27) → W.cell? ⟨w.heap.size, 8, none⟩ = some (.string r)) := fun W hW => (cells11 hW).2.2.2.2.2.2.2.2.1
        have BKd : (w2.drew).heap[w.heap.size]? = some (.cells (cFl k n v i a1 a.length c1 f hi' hf' r true a2 kids.length c2) 27) := BK
        have LD := hide ((unhide L2).grow hB1 (Below.refl w2.heap.size w2).drew)
        go_region_held3 (fun W => W.cell? ⟨w.heap.size, 8, none⟩ = some (.string r)) (first | with_reducible exact unhide HSS _ BK | with_reducible exact unhide HSS _ BKd | with_reducible exact unhide HSS _ BK6 | with_reducible exact unhide HSS _ BK7 | assumption | go_keep)
          (first
            | (refine step_append_str (by rfl) _ _ 44 9 (by rfl) w0.heap.size 5 i0 Tryz.underlying44 Tryz.underlying9 hi hz0 hz1 hz2 _ N3 _ (by rfl) (Ob.own (unhide HN3) (unhide L6).own) r (by rfl) a31 a32 ((unhide L6).big hB1) ?_; intro v7 w7 hown hgrow; have L7 := hide ((unhide L6).step hB1 hgrow (Ob.push_str (unhide HN3) hown)); clear hown hgrow; have BK7 := (unhide L7).kp _ _ _ HBX (by decide))
            | (refine step_append_str (by rfl) _ _ 44 9 (by rfl) w0.heap.size 5 i0 Tryz.underlying44 Tryz.underlying9 hi hz0 hz1 hz2 _ N2 _ (by rfl) (Ob.own (unhide HN2) (unhide LD).own) (⟨#[58]⟩ : ByteArray) (by rfl) a21 a22 ((unhide LD).big hB1) ?_; intro v6 w6 hown hgrow; have L6 := hide ((unhide LD).step hB1 hgrow (Ob.push_str (unhide HN2) hown)); clear hown hgrow; have BK6 := (unhide L6).kp _ _ _ HBX (by decide)))
        obtain ⟨m0, m1, m2, m3, m4, m5, m6, m7, m8, m9, m10⟩ := cells11 BK7
        go_wp2_with (first
          | (at_builtin; refine wpList_append_lies _ rfl _ _ 44 rfl w0.heap.size 5 i0 _ 1 1 Tryz.underlying44 hi hz0 hz1 hz2 rfl (by omega) _ N9 _ rfl (World.ownsRow.alloc (Ob.own (unhide HN9) (unhide L9).own) _) ⟨w9.heap.size, 0, none⟩ 1 1 [.int .u8 42] rfl rfl (World.news_of_block (cs := #[.int .u8 42]) (t := 5) (fr := (0, 0)) (heap_new w9 _)) (by simp [Value.oneCell']) (by omega) b91 b92 (by have z := (unhide L9).big hB1; simp; omega) (w9.heap.size + 1) (by simp) ?_; intro g10 cap10 w10 hown10 hgrow10 hat10 hlt10; have L10 := hide ((unhide L9).step hB1 (grown_new hgrow10) (Ob.push (unhide HN9) (Z := [42]) rfl hown10)))
          | (at_builtin; refine Lib.wpList_append_own_string _ rfl _ _ 44 9 rfl w0.heap.size 5 i0 Tryz.underlying44 Tryz.underlying9 hi hz0 hz1 hz2 _ N4 _ rfl (Ob.own (unhide HN4) (unhide L8).own) (sgO k) rfl a41 a42 ((unhide L8).big hB1) ?_; intro v9 w9 hown hgrow hnil; clear hnil; have L9 := hide ((unhide L8).step hB1 hgrow (Ob.push_str (unhide HN4) hown)); clear hown hgrow; obtain ⟨m0, m1, m2, m3, m4, m5, m6, m7, m8, m9, m10⟩ := cells11 ((unhide L9).kp _ _ _ HBX (by decide)))
          | (go_at_call 48; refine (unhide CS _ (tb.trans (unhide L7).bel)).mono ?_; rintro e w8 ⟨rfl, g8⟩; have L8 := hide ((unhide L7).grow hB1 g8.below)))
        go_ret
        refine ⟨_, rfl, ?_⟩
        have z := (unhide L10).off (B := w0.heap.size) (w := w) hB B1
        rw [unhide HIT]
        simp only [List.append_assoc] at z ⊢
        exact z
      have z7 : (k == 7) = false := by rw [beq_eq_false_iff_ne]; exact h7
      by_cases h4k : k = 4
      · have HIT : Hid (itemT k n v i a f r d = nums n ++ (nums (⟨#[58, 100, 110]⟩ : ByteArray) ++ (nums (⟨#[58]⟩ : ByteArray) ++ (nums r ++ (nums (sgO k) ++ (starT i a f)))))) := by
          show _ = _
          unfold itemT
          rw [if_pos hd, if_neg hr, if_neg h7, if_pos h4k]
          rfl
        have er : r.toList.isEmpty = false := by rw [emp_sz, decide_eq_false]; intro h; exact hr ((sz0 r).1 h)
        obtain rfl : d = true := hd
        clear hr
        have z4 : (k == 4) = true := by rw [h4k]; rfl
        clear h7 h4k
        obtain ⟨N0, hN0⟩ : ∃ N, N = (Y).length := ⟨_, rfl⟩
        have HN0 := hide hN0
        have a01 : N0 + n.size ≤ maxLen := by
          rw [hN0]
          (repeat rw [List.length_append]); (repeat rw [nums_length])
          have := hsg
          have l3 : (⟨#[58, 100, 110]⟩ : ByteArray).size = 3 := rfl
          have l1 : (⟨#[58]⟩ : ByteArray).size = 1 := rfl
          unfold maxLen
          omega
        have a02 : N0 + n.size ≤ 140737488355328 := by
          rw [hN0]
          (repeat rw [List.length_append]); (repeat rw [nums_length])
          have := hsg
          have l3 : (⟨#[58, 100, 110]⟩ : ByteArray).size = 3 := rfl
          have l1 : (⟨#[58]⟩ : ByteArray).size = 1 := rfl
          omega
        obtain ⟨N1, hN1⟩ : ∃ N, N = (Y ++ nums n).length := ⟨_, rfl⟩
        have HN1 := hide hN1
        have a11 : N1 + (⟨#[58, 100, 110]⟩ : ByteArray).size ≤ maxLen := by
          rw [hN1]
          (repeat rw [List.length_append]); (repeat rw [nums_length])
          have := hsg
          have l3 : (⟨#[58, 100, 110]⟩ : ByteArray).size = 3 := rfl
          have l1 : (⟨#[58]⟩ : ByteArray).size = 1 := rfl
          unfold maxLen
          omega
        have a12 : N1 + (⟨#[58, 100, 110]⟩ : ByteArray).size ≤ 140737488355328 := by
          rw [hN1]
          (repeat rw [List.length_append]); (repeat rw [nums_length])
          have := hsg
          have l3 : (⟨#[58, 100, 110]⟩ : ByteArray).size = 3 := rfl
          have l1 : (⟨#[58]⟩ : ByteArray).size = 1 := rfl
          omega
        obtain ⟨N2, hN2⟩ : ∃ N, N = (Y ++ nums n ++ nums (⟨#[58, 100, 110]⟩ : ByteArray)).length := ⟨_, rfl⟩
        have HN2 := hide hN2
        have a21 : N2 + (⟨#[58]⟩ : ByteArray).size ≤ maxLen := by
          rw [hN2]
          (repeat rw [List.length_append]); (repeat rw [nums_length])
          have := hsg
          have l3 : (⟨#[58, 100, 110]⟩ : ByteArray).size = 3 := rfl
          have l1 : (⟨#[58]⟩ : ByteArray).size = 1 := rfl
          unfold maxLen
          omega
        have a22 : N2 + (⟨#[58]⟩ : ByteArray).size ≤ 140737488355328 := by
          rw [hN2]
          (repeat rw [List.length_append]); (repeat rw [nums_length])
          have := hsg
          have l3 : (⟨#[58, 100, 110]⟩ : ByteArray).size = 3 := rfl
          have l1 : (⟨#[58]⟩ : ByteArray).size = 1 := rfl
          omega
        obtain ⟨N3, hN3⟩ : ∃ N, N = (Y ++ nums n ++ nums (⟨#[58, 100, 110]⟩ : ByteArray) ++ nums (⟨#[58]⟩ : ByteArray)).length := ⟨_, rfl⟩
        have HN3 := hide hN3
        have a31 : N3 + r.size ≤ maxLen := by
          rw [hN3]
          (repeat rw [List.length_append]); (repeat rw [nums_length])
          have := hsg
          have l3 : (⟨#[58, 100, 110]⟩ : ByteArray).size = 3 := rfl
          have l1 : (⟨#[58]⟩ : ByteArray).size = 1 := rfl
          unfold maxLen
          omega
        have a32 : N3 + r.size ≤ 140737488355328 := by
          rw [hN3]
          (repeat rw [List.length_append]); (repeat rw [nums_length])
          have := hsg
          have l3 : (⟨#[58, 100, 110]⟩ : ByteArray).size = 3 := rfl
          have l1 : (⟨#[58]⟩ : ByteArray).size = 1 := rfl
          omega
        obtain ⟨N4, hN4⟩ : ∃ N, N = (Y ++ nums n ++ nums (⟨#[58, 100, 110]⟩ : ByteArray) ++ nums (⟨#[58]⟩ : ByteArray) ++ nums r).length := ⟨_, rfl⟩
        have HN4 := hide hN4
        have a41 : N4 + (sgO k).size ≤ maxLen := by
          rw [hN4]
          (repeat rw [List.length_append]); (repeat rw [nums_length])
          have := hsg
          have l3 : (⟨#[58, 100, 110]⟩ : ByteArray).size = 3 := rfl
          have l1 : (⟨#[58]⟩ : ByteArray).size = 1 := rfl
          unfold maxLen
          omega
        have a42 : N4 + (sgO k).size ≤ 140737488355328 := by
          rw [hN4]
          (repeat rw [List.length_append]); (repeat rw [nums_length])
          have := hsg
          have l3 : (⟨#[58, 100, 110]⟩ : ByteArray).size = 3 := rfl
          have l1 : (⟨#[58]⟩ : ByteArray).size = 1 := rfl
          omega
        have h4 : (Y ++ nums n ++ nums (⟨#[58, 100, 110]⟩ : ByteArray) ++ nums (⟨#[58]⟩ : ByteArray) ++ nums r ++ nums (sgO k)).length + 3 * (i.size + f.size) + 3 * (a.map ByteArray.size).sum + a.length + 1 ≤ 1000000 := by
          (repeat rw [List.length_append]); (repeat rw [nums_length])
          have := hsg
          have l3 : (⟨#[58, 100, 110]⟩ : ByteArray).size = 3 := rfl
          have l1 : (⟨#[58]⟩ : ByteArray).size = 1 := rfl
          omega
        clear hl hsg hN0 hN1 hN2 hN3 hN4
        go_enter Tryz.func32, Tryz.ntmps32
        go_upto_region 5 with (first
          | (at_builtin; refine Lib.wpList_append_own_string _ rfl _ _ 44 9 rfl w0.heap.size 5 i0 Tryz.underlying44 Tryz.underlying9 hi hz0 hz1 hz2 _ N1 _ rfl (Ob.own (unhide HN1) (unhide L1).own) (⟨#[58, 100, 110]⟩ : ByteArray) rfl a11 a12 ((unhide L1).big hB1) ?_; intro v2 w2 hown hgrow hnil; clear hnil; have L2 := hide ((unhide L1).step hB1 hgrow (Ob.push_str (unhide HN1) hown)); clear hown hgrow; obtain ⟨m0, m1, m2, m3, m4, m5, m6, m7, m8, m9, m10⟩ := cells11 ((unhide L2).kp _ _ _ HBX (by decide)))
          | (at_builtin; refine Lib.wpList_append_own_string _ rfl _ _ 44 9 rfl w0.heap.size 5 i0 Tryz.underlying44 Tryz.underlying9 hi hz0 hz1 hz2 _ N0 _ rfl (Ob.own (unhide HN0) (unhide L0).own) n rfl a01 a02 (hB1) ?_; intro v1 w1 hown hgrow hnil; clear hnil; have L1 := hide ((unhide L0).step hB1 hgrow (Ob.push_str (unhide HN0) hown)); clear hown hgrow; obtain ⟨m0, m1, m2, m3, m4, m5, m6, m7, m8, m9, m10⟩ := cells11 ((unhide L1).kp _ _ _ HBX (by decide))))
        have BK := (unhide L2).kp _ _ _ HBX (by decide)
        have HSS : Hid (∀ W : World, W.heap[w.heap.size]? = some (.cells (cFl k n v i a1 a.length c1 f hi' hf' r true a2 kids.length c2) 27) → W.cell? ⟨w.heap.size, 8, none⟩ = some (.string r)) := fun W hW => (cells11 hW).2.2.2.2.2.2.2.2.1
        have BKd : (w2.drew).heap[w.heap.size]? = some (.cells (cFl k n v i a1 a.length c1 f hi' hf' r true a2 kids.length c2) 27) := BK
        have LD := hide ((unhide L2).grow hB1 (Below.refl w2.heap.size w2).drew)
        go_region_held3 (fun W => W.cell? ⟨w.heap.size, 8, none⟩ = some (.string r)) (first | with_reducible exact unhide HSS _ BK | with_reducible exact unhide HSS _ BKd | with_reducible exact unhide HSS _ BK6 | with_reducible exact unhide HSS _ BK7 | assumption | go_keep)
          (first
            | (refine step_append_str (by rfl) _ _ 44 9 (by rfl) w0.heap.size 5 i0 Tryz.underlying44 Tryz.underlying9 hi hz0 hz1 hz2 _ N3 _ (by rfl) (Ob.own (unhide HN3) (unhide L6).own) r (by rfl) a31 a32 ((unhide L6).big hB1) ?_; intro v7 w7 hown hgrow; have L7 := hide ((unhide L6).step hB1 hgrow (Ob.push_str (unhide HN3) hown)); clear hown hgrow; have BK7 := (unhide L7).kp _ _ _ HBX (by decide))
            | (refine step_append_str (by rfl) _ _ 44 9 (by rfl) w0.heap.size 5 i0 Tryz.underlying44 Tryz.underlying9 hi hz0 hz1 hz2 _ N2 _ (by rfl) (Ob.own (unhide HN2) (unhide LD).own) (⟨#[58]⟩ : ByteArray) (by rfl) a21 a22 ((unhide LD).big hB1) ?_; intro v6 w6 hown hgrow; have L6 := hide ((unhide LD).step hB1 hgrow (Ob.push_str (unhide HN2) hown)); clear hown hgrow; have BK6 := (unhide L6).kp _ _ _ HBX (by decide)))
        obtain ⟨m0, m1, m2, m3, m4, m5, m6, m7, m8, m9, m10⟩ := cells11 BK7
        go_wp2_with (first
          | (go_at_call 49; refine (unhide CP _ _ _ (unhide L9).own (tb.trans (unhide L9).bel) h4).mono ?_; rintro e w10 ⟨v10, rfl, hA⟩; have L10 := hide ((unhide L9).trans hA); clear hA)
          | (at_builtin; refine Lib.wpList_append_own_string _ rfl _ _ 44 9 rfl w0.heap.size 5 i0 Tryz.underlying44 Tryz.underlying9 hi hz0 hz1 hz2 _ N4 _ rfl (Ob.own (unhide HN4) (unhide L8).own) (sgO k) rfl a41 a42 ((unhide L8).big hB1) ?_; intro v9 w9 hown hgrow hnil; clear hnil; have L9 := hide ((unhide L8).step hB1 hgrow (Ob.push_str (unhide HN4) hown)); clear hown hgrow; obtain ⟨m0, m1, m2, m3, m4, m5, m6, m7, m8, m9, m10⟩ := cells11 ((unhide L9).kp _ _ _ HBX (by decide)))
          | (go_at_call 48; refine (unhide CS _ (tb.trans (unhide L7).bel)).mono ?_; rintro e w8 ⟨rfl, g8⟩; have L8 := hide ((unhide L7).grow hB1 g8.below)))
        go_ret
        refine ⟨_, rfl, ?_⟩
        have z := (unhide L10).off (B := w0.heap.size) (w := w) hB B1
        rw [unhide HIT]
        simp only [List.append_assoc] at z ⊢
        exact z
      have z4 : (k == 4) = false := by rw [beq_eq_false_iff_ne]; exact h4k
      have HIT : Hid (itemT k n v i a f r d = nums n ++ (nums (⟨#[58, 100, 110]⟩ : ByteArray) ++ (nums (⟨#[58]⟩ : ByteArray) ++ (nums r ++ (nums (sgO k) ++ (vTxt (nums v))))))) := by
        show _ = _
        unfold itemT
        rw [if_pos hd, if_neg hr, if_neg h7, if_neg h4k]
        rfl
      have er : r.toList.isEmpty = false := by rw [emp_sz, decide_eq_false]; intro h; exact hr ((sz0 r).1 h)
      obtain rfl : d = true := hd
      clear hr
      clear h7 h4k
      obtain ⟨N0, hN0⟩ : ∃ N, N = (Y).length := ⟨_, rfl⟩
      have HN0 := hide hN0
      have a01 : N0 + n.size ≤ maxLen := by
        rw [hN0]
        (repeat rw [List.length_append]); (repeat rw [nums_length])
        have := hsg
        have l3 : (⟨#[58, 100, 110]⟩ : ByteArray).size = 3 := rfl
        have l1 : (⟨#[58]⟩ : ByteArray).size = 1 := rfl
        unfold maxLen
        omega
      have a02 : N0 + n.size ≤ 140737488355328 := by
        rw [hN0]
        (repeat rw [List.length_append]); (repeat rw [nums_length])
        have := hsg
        have l3 : (⟨#[58, 100, 110]⟩ : ByteArray).size = 3 := rfl
        have l1 : (⟨#[58]⟩ : ByteArray).size = 1 := rfl
        omega
      obtain ⟨N1, hN1⟩ : ∃ N, N = (Y ++ nums n).length := ⟨_, rfl⟩
      have HN1 := hide hN1
      have a11 : N1 + (⟨#[58, 100, 110]⟩ : ByteArray).size ≤ maxLen := by
        rw [hN1]
        (repeat rw [List.length_append]); (repeat rw [nums_length])
        have := hsg
        have l3 : (⟨#[58, 100, 110]⟩ : ByteArray).size = 3 := rfl
        have l1 : (⟨#[58]⟩ : ByteArray).size = 1 := rfl
        unfold maxLen
        omega
      have a12 : N1 + (⟨#[58, 100, 110]⟩ : ByteArray).size ≤ 140737488355328 := by
        rw [hN1]
        (repeat rw [List.length_append]); (repeat rw [nums_length])
        have := hsg
        have l3 : (⟨#[58, 100, 110]⟩ : ByteArray).size = 3 := rfl
        have l1 : (⟨#[58]⟩ : ByteArray).size = 1 := rfl
        omega
      obtain ⟨N2, hN2⟩ : ∃ N, N = (Y ++ nums n ++ nums (⟨#[58, 100, 110]⟩ : ByteArray)).length := ⟨_, rfl⟩
      have HN2 := hide hN2
      have a21 : N2 + (⟨#[58]⟩ : ByteArray).size ≤ maxLen := by
        rw [hN2]
        (repeat rw [List.length_append]); (repeat rw [nums_length])
        have := hsg
        have l3 : (⟨#[58, 100, 110]⟩ : ByteArray).size = 3 := rfl
        have l1 : (⟨#[58]⟩ : ByteArray).size = 1 := rfl
        unfold maxLen
        omega
      have a22 : N2 + (⟨#[58]⟩ : ByteArray).size ≤ 140737488355328 := by
        rw [hN2]
        (repeat rw [List.length_append]); (repeat rw [nums_length])
        have := hsg
        have l3 : (⟨#[58, 100, 110]⟩ : ByteArray).size = 3 := rfl
        have l1 : (⟨#[58]⟩ : ByteArray).size = 1 := rfl
        omega
      obtain ⟨N3, hN3⟩ : ∃ N, N = (Y ++ nums n ++ nums (⟨#[58, 100, 110]⟩ : ByteArray) ++ nums (⟨#[58]⟩ : ByteArray)).length := ⟨_, rfl⟩
      have HN3 := hide hN3
      have a31 : N3 + r.size ≤ maxLen := by
        rw [hN3]
        (repeat rw [List.length_append]); (repeat rw [nums_length])
        have := hsg
        have l3 : (⟨#[58, 100, 110]⟩ : ByteArray).size = 3 := rfl
        have l1 : (⟨#[58]⟩ : ByteArray).size = 1 := rfl
        unfold maxLen
        omega
      have a32 : N3 + r.size ≤ 140737488355328 := by
        rw [hN3]
        (repeat rw [List.length_append]); (repeat rw [nums_length])
        have := hsg
        have l3 : (⟨#[58, 100, 110]⟩ : ByteArray).size = 3 := rfl
        have l1 : (⟨#[58]⟩ : ByteArray).size = 1 := rfl
        omega
      obtain ⟨N4, hN4⟩ : ∃ N, N = (Y ++ nums n ++ nums (⟨#[58, 100, 110]⟩ : ByteArray) ++ nums (⟨#[58]⟩ : ByteArray) ++ nums r).length := ⟨_, rfl⟩
      have HN4 := hide hN4
      have a41 : N4 + (sgO k).size ≤ maxLen := by
        rw [hN4]
        (repeat rw [List.length_append]); (repeat rw [nums_length])
        have := hsg
        have l3 : (⟨#[58, 100, 110]⟩ : ByteArray).size = 3 := rfl
        have l1 : (⟨#[58]⟩ : ByteArray).size = 1 := rfl
        unfold maxLen
        omega
      have a42 : N4 + (sgO k).size ≤ 140737488355328 := by
        rw [hN4]
        (repeat rw [List.length_append]); (repeat rw [nums_length])
        have := hsg
        have l3 : (⟨#[58, 100, 110]⟩ : ByteArray).size = 3 := rfl
        have l1 : (⟨#[58]⟩ : ByteArray).size = 1 := rfl
        omega
      have h4 : (Y ++ nums n ++ nums (⟨#[58, 100, 110]⟩ : ByteArray) ++ nums (⟨#[58]⟩ : ByteArray) ++ nums r ++ nums (sgO k)).length + 3 * v.size ≤ 1000000 := by
        (repeat rw [List.length_append]); (repeat rw [nums_length])
        have := hsg
        have l3 : (⟨#[58, 100, 110]⟩ : ByteArray).size = 3 := rfl
        have l1 : (⟨#[58]⟩ : ByteArray).size = 1 := rfl
        omega
      clear hl hsg hN0 hN1 hN2 hN3 hN4
      go_enter Tryz.func32, Tryz.ntmps32
      go_upto_region 5 with (first
        | (at_builtin; refine Lib.wpList_append_own_string _ rfl _ _ 44 9 rfl w0.heap.size 5 i0 Tryz.underlying44 Tryz.underlying9 hi hz0 hz1 hz2 _ N1 _ rfl (Ob.own (unhide HN1) (unhide L1).own) (⟨#[58, 100, 110]⟩ : ByteArray) rfl a11 a12 ((unhide L1).big hB1) ?_; intro v2 w2 hown hgrow hnil; clear hnil; have L2 := hide ((unhide L1).step hB1 hgrow (Ob.push_str (unhide HN1) hown)); clear hown hgrow; obtain ⟨m0, m1, m2, m3, m4, m5, m6, m7, m8, m9, m10⟩ := cells11 ((unhide L2).kp _ _ _ HBX (by decide)))
        | (at_builtin; refine Lib.wpList_append_own_string _ rfl _ _ 44 9 rfl w0.heap.size 5 i0 Tryz.underlying44 Tryz.underlying9 hi hz0 hz1 hz2 _ N0 _ rfl (Ob.own (unhide HN0) (unhide L0).own) n rfl a01 a02 (hB1) ?_; intro v1 w1 hown hgrow hnil; clear hnil; have L1 := hide ((unhide L0).step hB1 hgrow (Ob.push_str (unhide HN0) hown)); clear hown hgrow; obtain ⟨m0, m1, m2, m3, m4, m5, m6, m7, m8, m9, m10⟩ := cells11 ((unhide L1).kp _ _ _ HBX (by decide))))
      have BK := (unhide L2).kp _ _ _ HBX (by decide)
      have HSS : Hid (∀ W : World, W.heap[w.heap.size]? = some (.cells (cFl k n v i a1 a.length c1 f hi' hf' r true a2 kids.length c2) 27) → W.cell? ⟨w.heap.size, 8, none⟩ = some (.string r)) := fun W hW => (cells11 hW).2.2.2.2.2.2.2.2.1
      have BKd : (w2.drew).heap[w.heap.size]? = some (.cells (cFl k n v i a1 a.length c1 f hi' hf' r true a2 kids.length c2) 27) := BK
      have LD := hide ((unhide L2).grow hB1 (Below.refl w2.heap.size w2).drew)
      go_region_held3 (fun W => W.cell? ⟨w.heap.size, 8, none⟩ = some (.string r)) (first | with_reducible exact unhide HSS _ BK | with_reducible exact unhide HSS _ BKd | with_reducible exact unhide HSS _ BK6 | with_reducible exact unhide HSS _ BK7 | assumption | go_keep)
        (first
          | (refine step_append_str (by rfl) _ _ 44 9 (by rfl) w0.heap.size 5 i0 Tryz.underlying44 Tryz.underlying9 hi hz0 hz1 hz2 _ N3 _ (by rfl) (Ob.own (unhide HN3) (unhide L6).own) r (by rfl) a31 a32 ((unhide L6).big hB1) ?_; intro v7 w7 hown hgrow; have L7 := hide ((unhide L6).step hB1 hgrow (Ob.push_str (unhide HN3) hown)); clear hown hgrow; have BK7 := (unhide L7).kp _ _ _ HBX (by decide))
          | (refine step_append_str (by rfl) _ _ 44 9 (by rfl) w0.heap.size 5 i0 Tryz.underlying44 Tryz.underlying9 hi hz0 hz1 hz2 _ N2 _ (by rfl) (Ob.own (unhide HN2) (unhide LD).own) (⟨#[58]⟩ : ByteArray) (by rfl) a21 a22 ((unhide LD).big hB1) ?_; intro v6 w6 hown hgrow; have L6 := hide ((unhide LD).step hB1 hgrow (Ob.push_str (unhide HN2) hown)); clear hown hgrow; have BK6 := (unhide L6).kp _ _ _ HBX (by decide)))
      obtain ⟨m0, m1, m2, m3, m4, m5, m6, m7, m8, m9, m10⟩ := cells11 BK7
      go_wp2_with (first
        | (go_at_call 50; refine (unhide CA _ _ _ (unhide L9).own ((unhide L9).big hB1) h4).mono ?_; rintro e w10 ⟨v10, rfl, hA⟩; have L10 := hide ((unhide L9).trans hA); clear hA)
        | (at_builtin; refine Lib.wpList_append_own_string _ rfl _ _ 44 9 rfl w0.heap.size 5 i0 Tryz.underlying44 Tryz.underlying9 hi hz0 hz1 hz2 _ N4 _ rfl (Ob.own (unhide HN4) (unhide L8).own) (sgO k) rfl a41 a42 ((unhide L8).big hB1) ?_; intro v9 w9 hown hgrow hnil; clear hnil; have L9 := hide ((unhide L8).step hB1 hgrow (Ob.push_str (unhide HN4) hown)); clear hown hgrow; obtain ⟨m0, m1, m2, m3, m4, m5, m6, m7, m8, m9, m10⟩ := cells11 ((unhide L9).kp _ _ _ HBX (by decide)))
        | (go_at_call 48; refine (unhide CS _ (tb.trans (unhide L7).bel)).mono ?_; rintro e w8 ⟨rfl, g8⟩; have L8 := hide ((unhide L7).grow hB1 g8.below)))
      go_ret
      refine ⟨_, rfl, ?_⟩
      have z := (unhide L10).off (B := w0.heap.size) (w := w) hB B1
      rw [unhide HIT]
      simp only [List.append_assoc] at z ⊢
      exact z
  · by_cases hr : r = ⟨#[]⟩
    · by_cases h7 : k = 7
      · have HIT : Hid (itemT k n v i a f r d = nums n ++ ((((nums (sgO k) ++ ([42])))))) := by
          show _ = _
          unfold itemT
          rw [if_neg hd, if_pos hr, if_pos h7]
          rfl
        have er : r.toList.isEmpty = true := by rw [emp_sz, decide_eq_true]; rw [hr]; rfl
        obtain rfl : d = false := by simpa using hd
        clear hr hd
        have z7 : (k == 7) = true := by rw [h7]; rfl
        clear h7
        obtain ⟨N0, hN0⟩ : ∃ N, N = (Y).length := ⟨_, rfl⟩
        have HN0 := hide hN0
        have a01 : N0 + n.size ≤ maxLen := by
          rw [hN0]
          (repeat rw [List.length_append]); (repeat rw [nums_length])
          have := hsg
          unfold maxLen
          omega
        have a02 : N0 + n.size ≤ 140737488355328 := by
          rw [hN0]
          (repeat rw [List.length_append]); (repeat rw [nums_length])
          have := hsg
          omega
        obtain ⟨N1, hN1⟩ : ∃ N, N = (Y ++ nums n).length := ⟨_, rfl⟩
        have HN1 := hide hN1
        have a11 : N1 + (sgO k).size ≤ maxLen := by
          rw [hN1]
          (repeat rw [List.length_append]); (repeat rw [nums_length])
          have := hsg
          unfold maxLen
          omega
        have a12 : N1 + (sgO k).size ≤ 140737488355328 := by
          rw [hN1]
          (repeat rw [List.length_append]); (repeat rw [nums_length])
          have := hsg
          omega
        obtain ⟨N9, hN9⟩ : ∃ N, N = (Y ++ nums n ++ nums (sgO k)).length := ⟨_, rfl⟩
        have HN9 := hide hN9
        have b91 : N9 + 1 ≤ maxLen := by
          rw [hN9]
          (repeat rw [List.length_append]); (repeat rw [nums_length])
          have := hsg
          unfold maxLen
          omega
        have b92 : (N9 + 1) * 1 ≤ 140737488355328 := by
          rw [hN9]
          (repeat rw [List.length_append]); (repeat rw [nums_length])
          have := hsg
          omega
        clear hl hsg hN0 hN1 hN9
        go_enter Tryz.func32, Tryz.ntmps32
        go_wp2_with (first
          | (at_builtin; refine wpList_append_lies _ rfl _ _ 44 rfl w0.heap.size 5 i0 _ 1 1 Tryz.underlying44 hi hz0 hz1 hz2 rfl (by omega) _ N9 _ rfl (World.ownsRow.alloc (Ob.own (unhide HN9) (unhide L9).own) _) ⟨w9.heap.size, 0, none⟩ 1 1 [.int .u8 42] rfl rfl (World.news_of_block (cs := #[.int .u8 42]) (t := 5) (fr := (0, 0)) (heap_new w9 _)) (by simp [Value.oneCell']) (by omega) b91 b92 (by have z := (unhide L9).big hB1; simp; omega) (w9.heap.size + 1) (by simp) ?_; intro g10 cap10 w10 hown10 hgrow10 hat10 hlt10; have L10 := hide ((unhide L9).step hB1 (grown_new hgrow10) (Ob.push (unhide HN9) (Z := [42]) rfl hown10)))
          | (at_builtin; refine Lib.wpList_append_own_string _ rfl _ _ 44 9 rfl w0.heap.size 5 i0 Tryz.underlying44 Tryz.underlying9 hi hz0 hz1 hz2 _ N1 _ rfl (Ob.own (unhide HN1) (unhide L8).own) (sgO k) rfl a11 a12 ((unhide L8).big hB1) ?_; intro v9 w9 hown hgrow hnil; clear hnil; have L9 := hide ((unhide L8).step hB1 hgrow (Ob.push_str (unhide HN1) hown)); clear hown hgrow; obtain ⟨m0, m1, m2, m3, m4, m5, m6, m7, m8, m9, m10⟩ := cells11 ((unhide L9).kp _ _ _ HBX (by decide)))
          | (go_at_call 48; refine (unhide CS _ (tb.trans (unhide L1).bel)).mono ?_; rintro e w8 ⟨rfl, g8⟩; have L8 := hide ((unhide L1).grow hB1 g8.below))
          | (at_builtin; refine Lib.wpList_append_own_string _ rfl _ _ 44 9 rfl w0.heap.size 5 i0 Tryz.underlying44 Tryz.underlying9 hi hz0 hz1 hz2 _ N0 _ rfl (Ob.own (unhide HN0) (unhide L0).own) n rfl a01 a02 (hB1) ?_; intro v1 w1 hown hgrow hnil; clear hnil; have L1 := hide ((unhide L0).step hB1 hgrow (Ob.push_str (unhide HN0) hown)); clear hown hgrow; obtain ⟨m0, m1, m2, m3, m4, m5, m6, m7, m8, m9, m10⟩ := cells11 ((unhide L1).kp _ _ _ HBX (by decide))))
        go_ret
        refine ⟨_, rfl, ?_⟩
        have z := (unhide L10).off (B := w0.heap.size) (w := w) hB B1
        rw [unhide HIT]
        simp only [List.append_assoc] at z ⊢
        exact z
      have z7 : (k == 7) = false := by rw [beq_eq_false_iff_ne]; exact h7
      by_cases h4k : k = 4
      · have HIT : Hid (itemT k n v i a f r d = nums n ++ ((((nums (sgO k) ++ (starT i a f)))))) := by
          show _ = _
          unfold itemT
          rw [if_neg hd, if_pos hr, if_neg h7, if_pos h4k]
          rfl
        have er : r.toList.isEmpty = true := by rw [emp_sz, decide_eq_true]; rw [hr]; rfl
        obtain rfl : d = false := by simpa using hd
        clear hr hd
        have z4 : (k == 4) = true := by rw [h4k]; rfl
        clear h7 h4k
        obtain ⟨N0, hN0⟩ : ∃ N, N = (Y).length := ⟨_, rfl⟩
        have HN0 := hide hN0
        have a01 : N0 + n.size ≤ maxLen := by
          rw [hN0]
          (repeat rw [List.length_append]); (repeat rw [nums_length])
          have := hsg
          unfold maxLen
          omega
        have a02 : N0 + n.size ≤ 140737488355328 := by
          rw [hN0]
          (repeat rw [List.length_append]); (repeat rw [nums_length])
          have := hsg
          omega
        obtain ⟨N1, hN1⟩ : ∃ N, N = (Y ++ nums n).length := ⟨_, rfl⟩
        have HN1 := hide hN1
        have a11 : N1 + (sgO k).size ≤ maxLen := by
          rw [hN1]
          (repeat rw [List.length_append]); (repeat rw [nums_length])
          have := hsg
          unfold maxLen
          omega
        have a12 : N1 + (sgO k).size ≤ 140737488355328 := by
          rw [hN1]
          (repeat rw [List.length_append]); (repeat rw [nums_length])
          have := hsg
          omega
        have h4 : (Y ++ nums n ++ nums (sgO k)).length + 3 * (i.size + f.size) + 3 * (a.map ByteArray.size).sum + a.length + 1 ≤ 1000000 := by
          (repeat rw [List.length_append]); (repeat rw [nums_length])
          have := hsg
          omega
        clear hl hsg hN0 hN1
        go_enter Tryz.func32, Tryz.ntmps32
        go_wp2_with (first
          | (go_at_call 49; refine (unhide CP _ _ _ (unhide L9).own (tb.trans (unhide L9).bel) h4).mono ?_; rintro e w10 ⟨v10, rfl, hA⟩; have L10 := hide ((unhide L9).trans hA); clear hA)
          | (at_builtin; refine Lib.wpList_append_own_string _ rfl _ _ 44 9 rfl w0.heap.size 5 i0 Tryz.underlying44 Tryz.underlying9 hi hz0 hz1 hz2 _ N1 _ rfl (Ob.own (unhide HN1) (unhide L8).own) (sgO k) rfl a11 a12 ((unhide L8).big hB1) ?_; intro v9 w9 hown hgrow hnil; clear hnil; have L9 := hide ((unhide L8).step hB1 hgrow (Ob.push_str (unhide HN1) hown)); clear hown hgrow; obtain ⟨m0, m1, m2, m3, m4, m5, m6, m7, m8, m9, m10⟩ := cells11 ((unhide L9).kp _ _ _ HBX (by decide)))
          | (go_at_call 48; refine (unhide CS _ (tb.trans (unhide L1).bel)).mono ?_; rintro e w8 ⟨rfl, g8⟩; have L8 := hide ((unhide L1).grow hB1 g8.below))
          | (at_builtin; refine Lib.wpList_append_own_string _ rfl _ _ 44 9 rfl w0.heap.size 5 i0 Tryz.underlying44 Tryz.underlying9 hi hz0 hz1 hz2 _ N0 _ rfl (Ob.own (unhide HN0) (unhide L0).own) n rfl a01 a02 (hB1) ?_; intro v1 w1 hown hgrow hnil; clear hnil; have L1 := hide ((unhide L0).step hB1 hgrow (Ob.push_str (unhide HN0) hown)); clear hown hgrow; obtain ⟨m0, m1, m2, m3, m4, m5, m6, m7, m8, m9, m10⟩ := cells11 ((unhide L1).kp _ _ _ HBX (by decide))))
        go_ret
        refine ⟨_, rfl, ?_⟩
        have z := (unhide L10).off (B := w0.heap.size) (w := w) hB B1
        rw [unhide HIT]
        simp only [List.append_assoc] at z ⊢
        exact z
      have z4 : (k == 4) = false := by rw [beq_eq_false_iff_ne]; exact h4k
      have HIT : Hid (itemT k n v i a f r d = nums n ++ ((((nums (sgO k) ++ (vTxt (nums v))))))) := by
        show _ = _
        unfold itemT
        rw [if_neg hd, if_pos hr, if_neg h7, if_neg h4k]
        rfl
      have er : r.toList.isEmpty = true := by rw [emp_sz, decide_eq_true]; rw [hr]; rfl
      obtain rfl : d = false := by simpa using hd
      clear hr hd
      clear h7 h4k
      obtain ⟨N0, hN0⟩ : ∃ N, N = (Y).length := ⟨_, rfl⟩
      have HN0 := hide hN0
      have a01 : N0 + n.size ≤ maxLen := by
        rw [hN0]
        (repeat rw [List.length_append]); (repeat rw [nums_length])
        have := hsg
        unfold maxLen
        omega
      have a02 : N0 + n.size ≤ 140737488355328 := by
        rw [hN0]
        (repeat rw [List.length_append]); (repeat rw [nums_length])
        have := hsg
        omega
      obtain ⟨N1, hN1⟩ : ∃ N, N = (Y ++ nums n).length := ⟨_, rfl⟩
      have HN1 := hide hN1
      have a11 : N1 + (sgO k).size ≤ maxLen := by
        rw [hN1]
        (repeat rw [List.length_append]); (repeat rw [nums_length])
        have := hsg
        unfold maxLen
        omega
      have a12 : N1 + (sgO k).size ≤ 140737488355328 := by
        rw [hN1]
        (repeat rw [List.length_append]); (repeat rw [nums_length])
        have := hsg
        omega
      have h4 : (Y ++ nums n ++ nums (sgO k)).length + 3 * v.size ≤ 1000000 := by
        (repeat rw [List.length_append]); (repeat rw [nums_length])
        have := hsg
        omega
      clear hl hsg hN0 hN1
      go_enter Tryz.func32, Tryz.ntmps32
      go_wp2_with (first
        | (go_at_call 50; refine (unhide CA _ _ _ (unhide L9).own ((unhide L9).big hB1) h4).mono ?_; rintro e w10 ⟨v10, rfl, hA⟩; have L10 := hide ((unhide L9).trans hA); clear hA)
        | (at_builtin; refine Lib.wpList_append_own_string _ rfl _ _ 44 9 rfl w0.heap.size 5 i0 Tryz.underlying44 Tryz.underlying9 hi hz0 hz1 hz2 _ N1 _ rfl (Ob.own (unhide HN1) (unhide L8).own) (sgO k) rfl a11 a12 ((unhide L8).big hB1) ?_; intro v9 w9 hown hgrow hnil; clear hnil; have L9 := hide ((unhide L8).step hB1 hgrow (Ob.push_str (unhide HN1) hown)); clear hown hgrow; obtain ⟨m0, m1, m2, m3, m4, m5, m6, m7, m8, m9, m10⟩ := cells11 ((unhide L9).kp _ _ _ HBX (by decide)))
        | (go_at_call 48; refine (unhide CS _ (tb.trans (unhide L1).bel)).mono ?_; rintro e w8 ⟨rfl, g8⟩; have L8 := hide ((unhide L1).grow hB1 g8.below))
        | (at_builtin; refine Lib.wpList_append_own_string _ rfl _ _ 44 9 rfl w0.heap.size 5 i0 Tryz.underlying44 Tryz.underlying9 hi hz0 hz1 hz2 _ N0 _ rfl (Ob.own (unhide HN0) (unhide L0).own) n rfl a01 a02 (hB1) ?_; intro v1 w1 hown hgrow hnil; clear hnil; have L1 := hide ((unhide L0).step hB1 hgrow (Ob.push_str (unhide HN0) hown)); clear hown hgrow; obtain ⟨m0, m1, m2, m3, m4, m5, m6, m7, m8, m9, m10⟩ := cells11 ((unhide L1).kp _ _ _ HBX (by decide))))
      go_ret
      refine ⟨_, rfl, ?_⟩
      have z := (unhide L10).off (B := w0.heap.size) (w := w) hB B1
      rw [unhide HIT]
      simp only [List.append_assoc] at z ⊢
      exact z
    · by_cases h7 : k = 7
      · have HIT : Hid (itemT k n v i a f r d = nums n ++ ((nums (⟨#[58]⟩ : ByteArray) ++ (nums r ++ (nums (sgO k) ++ ([42])))))) := by
          show _ = _
          unfold itemT
          rw [if_neg hd, if_neg hr, if_pos h7]
          rfl
        have er : r.toList.isEmpty = false := by rw [emp_sz, decide_eq_false]; intro h; exact hr ((sz0 r).1 h)
        obtain rfl : d = false := by simpa using hd
        clear hr hd
        have z7 : (k == 7) = true := by rw [h7]; rfl
        clear h7
        obtain ⟨N0, hN0⟩ : ∃ N, N = (Y).length := ⟨_, rfl⟩
        have HN0 := hide hN0
        have a01 : N0 + n.size ≤ maxLen := by
          rw [hN0]
          (repeat rw [List.length_append]); (repeat rw [nums_length])
          have := hsg
          have l1 : (⟨#[58]⟩ : ByteArray).size = 1 := rfl
          unfold maxLen
          omega
        have a02 : N0 + n.size ≤ 140737488355328 := by
          rw [hN0]
          (repeat rw [List.length_append]); (repeat rw [nums_length])
          have := hsg
          have l1 : (⟨#[58]⟩ : ByteArray).size = 1 := rfl
          omega
        obtain ⟨N1, hN1⟩ : ∃ N, N = (Y ++ nums n).length := ⟨_, rfl⟩
        have HN1 := hide hN1
        have a11 : N1 + (⟨#[58]⟩ : ByteArray).size ≤ maxLen := by
          rw [hN1]
          (repeat rw [List.length_append]); (repeat rw [nums_length])
          have := hsg
          have l1 : (⟨#[58]⟩ : ByteArray).size = 1 := rfl
          unfold maxLen
          omega
        have a12 : N1 + (⟨#[58]⟩ : ByteArray).size ≤ 140737488355328 := by
          rw [hN1]
          (repeat rw [List.length_append]); (repeat rw [nums_length])
          have := hsg
          have l1 : (⟨#[58]⟩ : ByteArray).size = 1 := rfl
          omega
        obtain ⟨N2, hN2⟩ : ∃ N, N = (Y ++ nums n ++ nums (⟨#[58]⟩ : ByteArray)).length := ⟨_, rfl⟩
        have HN2 := hide hN2
        have a21 : N2 + r.size ≤ maxLen := by
          rw [hN2]
          (repeat rw [List.length_append]); (repeat rw [nums_length])
          have := hsg
          have l1 : (⟨#[58]⟩ : ByteArray).size = 1 := rfl
          unfold maxLen
          omega
        have a22 : N2 + r.size ≤ 140737488355328 := by
          rw [hN2]
          (repeat rw [List.length_append]); (repeat rw [nums_length])
          have := hsg
          have l1 : (⟨#[58]⟩ : ByteArray).size = 1 := rfl
          omega
        obtain ⟨N3, hN3⟩ : ∃ N, N = (Y ++ nums n ++ nums (⟨#[58]⟩ : ByteArray) ++ nums r).length := ⟨_, rfl⟩
        have HN3 := hide hN3
        have a31 : N3 + (sgO k).size ≤ maxLen := by
          rw [hN3]
          (repeat rw [List.length_append]); (repeat rw [nums_length])
          have := hsg
          have l1 : (⟨#[58]⟩ : ByteArray).size = 1 := rfl
          unfold maxLen
          omega
        have a32 : N3 + (sgO k).size ≤ 140737488355328 := by
          rw [hN3]
          (repeat rw [List.length_append]); (repeat rw [nums_length])
          have := hsg
          have l1 : (⟨#[58]⟩ : ByteArray).size = 1 := rfl
          omega
        obtain ⟨N9, hN9⟩ : ∃ N, N = (Y ++ nums n ++ nums (⟨#[58]⟩ : ByteArray) ++ nums r ++ nums (sgO k)).length := ⟨_, rfl⟩
        have HN9 := hide hN9
        have b91 : N9 + 1 ≤ maxLen := by
          rw [hN9]
          (repeat rw [List.length_append]); (repeat rw [nums_length])
          have := hsg
          have l1 : (⟨#[58]⟩ : ByteArray).size = 1 := rfl
          unfold maxLen
          omega
        have b92 : (N9 + 1) * 1 ≤ 140737488355328 := by
          rw [hN9]
          (repeat rw [List.length_append]); (repeat rw [nums_length])
          have := hsg
          have l1 : (⟨#[58]⟩ : ByteArray).size = 1 := rfl
          omega
        clear hl hsg hN0 hN1 hN2 hN3 hN9
        go_enter Tryz.func32, Tryz.ntmps32
        go_upto_region 5 with (first
          | (at_builtin; refine Lib.wpList_append_own_string _ rfl _ _ 44 9 rfl w0.heap.size 5 i0 Tryz.underlying44 Tryz.underlying9 hi hz0 hz1 hz2 _ N0 _ rfl (Ob.own (unhide HN0) (unhide L0).own) n rfl a01 a02 (hB1) ?_; intro v1 w1 hown hgrow hnil; clear hnil; have L1 := hide ((unhide L0).step hB1 hgrow (Ob.push_str (unhide HN0) hown)); clear hown hgrow; obtain ⟨m0, m1, m2, m3, m4, m5, m6, m7, m8, m9, m10⟩ := cells11 ((unhide L1).kp _ _ _ HBX (by decide))))
        have BK := (unhide L1).kp _ _ _ HBX (by decide)
        have HSS : Hid (∀ W : World, W.heap[w.heap.size]? = some (.cells (cFl k n v i a1 a.length c1 f hi' hf' r false a2 kids.length c2) 27) → W.cell? ⟨w.heap.size, 8, none⟩ = some (.string r)) := fun W hW => (cells11 hW).2.2.2.2.2.2.2.2.1
        have BKd : (w1.drew).heap[w.heap.size]? = some (.cells (cFl k n v i a1 a.length c1 f hi' hf' r false a2 kids.length c2) 27) := BK
        have LD := hide ((unhide L1).grow hB1 (Below.refl w1.heap.size w1).drew)
        go_region_held3 (fun W => W.cell? ⟨w.heap.size, 8, none⟩ = some (.string r)) (first | with_reducible exact unhide HSS _ BK | with_reducible exact unhide HSS _ BKd | with_reducible exact unhide HSS _ BK6 | with_reducible exact unhide HSS _ BK7 | assumption | go_keep)
          (first
            | (refine step_append_str (by rfl) _ _ 44 9 (by rfl) w0.heap.size 5 i0 Tryz.underlying44 Tryz.underlying9 hi hz0 hz1 hz2 _ N2 _ (by rfl) (Ob.own (unhide HN2) (unhide L6).own) r (by rfl) a21 a22 ((unhide L6).big hB1) ?_; intro v7 w7 hown hgrow; have L7 := hide ((unhide L6).step hB1 hgrow (Ob.push_str (unhide HN2) hown)); clear hown hgrow; have BK7 := (unhide L7).kp _ _ _ HBX (by decide))
            | (refine step_append_str (by rfl) _ _ 44 9 (by rfl) w0.heap.size 5 i0 Tryz.underlying44 Tryz.underlying9 hi hz0 hz1 hz2 _ N1 _ (by rfl) (Ob.own (unhide HN1) (unhide LD).own) (⟨#[58]⟩ : ByteArray) (by rfl) a11 a12 ((unhide LD).big hB1) ?_; intro v6 w6 hown hgrow; have L6 := hide ((unhide LD).step hB1 hgrow (Ob.push_str (unhide HN1) hown)); clear hown hgrow; have BK6 := (unhide L6).kp _ _ _ HBX (by decide)))
        obtain ⟨m0, m1, m2, m3, m4, m5, m6, m7, m8, m9, m10⟩ := cells11 BK7
        go_wp2_with (first
          | (at_builtin; refine wpList_append_lies _ rfl _ _ 44 rfl w0.heap.size 5 i0 _ 1 1 Tryz.underlying44 hi hz0 hz1 hz2 rfl (by omega) _ N9 _ rfl (World.ownsRow.alloc (Ob.own (unhide HN9) (unhide L9).own) _) ⟨w9.heap.size, 0, none⟩ 1 1 [.int .u8 42] rfl rfl (World.news_of_block (cs := #[.int .u8 42]) (t := 5) (fr := (0, 0)) (heap_new w9 _)) (by simp [Value.oneCell']) (by omega) b91 b92 (by have z := (unhide L9).big hB1; simp; omega) (w9.heap.size + 1) (by simp) ?_; intro g10 cap10 w10 hown10 hgrow10 hat10 hlt10; have L10 := hide ((unhide L9).step hB1 (grown_new hgrow10) (Ob.push (unhide HN9) (Z := [42]) rfl hown10)))
          | (at_builtin; refine Lib.wpList_append_own_string _ rfl _ _ 44 9 rfl w0.heap.size 5 i0 Tryz.underlying44 Tryz.underlying9 hi hz0 hz1 hz2 _ N3 _ rfl (Ob.own (unhide HN3) (unhide L8).own) (sgO k) rfl a31 a32 ((unhide L8).big hB1) ?_; intro v9 w9 hown hgrow hnil; clear hnil; have L9 := hide ((unhide L8).step hB1 hgrow (Ob.push_str (unhide HN3) hown)); clear hown hgrow; obtain ⟨m0, m1, m2, m3, m4, m5, m6, m7, m8, m9, m10⟩ := cells11 ((unhide L9).kp _ _ _ HBX (by decide)))
          | (go_at_call 48; refine (unhide CS _ (tb.trans (unhide L7).bel)).mono ?_; rintro e w8 ⟨rfl, g8⟩; have L8 := hide ((unhide L7).grow hB1 g8.below)))
        go_ret
        refine ⟨_, rfl, ?_⟩
        have z := (unhide L10).off (B := w0.heap.size) (w := w) hB B1
        rw [unhide HIT]
        simp only [List.append_assoc] at z ⊢
        exact z
      have z7 : (k == 7) = false := by rw [beq_eq_false_iff_ne]; exact h7
      by_cases h4k : k = 4
      · have HIT : Hid (itemT k n v i a f r d = nums n ++ ((nums (⟨#[58]⟩ : ByteArray) ++ (nums r ++ (nums (sgO k) ++ (starT i a f)))))) := by
          show _ = _
          unfold itemT
          rw [if_neg hd, if_neg hr, if_neg h7, if_pos h4k]
          rfl
        have er : r.toList.isEmpty = false := by rw [emp_sz, decide_eq_false]; intro h; exact hr ((sz0 r).1 h)
        obtain rfl : d = false := by simpa using hd
        clear hr hd
        have z4 : (k == 4) = true := by rw [h4k]; rfl
        clear h7 h4k
        obtain ⟨N0, hN0⟩ : ∃ N, N = (Y).length := ⟨_, rfl⟩
        have HN0 := hide hN0
        have a01 : N0 + n.size ≤ maxLen := by
          rw [hN0]
          (repeat rw [List.length_append]); (repeat rw [nums_length])
          have := hsg
          have l1 : (⟨#[58]⟩ : ByteArray).size = 1 := rfl
          unfold maxLen
          omega
        have a02 : N0 + n.size ≤ 140737488355328 := by
          rw [hN0]
          (repeat rw [List.length_append]); (repeat rw [nums_length])
          have := hsg
          have l1 : (⟨#[58]⟩ : ByteArray).size = 1 := rfl
          omega
        obtain ⟨N1, hN1⟩ : ∃ N, N = (Y ++ nums n).length := ⟨_, rfl⟩
        have HN1 := hide hN1
        have a11 : N1 + (⟨#[58]⟩ : ByteArray).size ≤ maxLen := by
          rw [hN1]
          (repeat rw [List.length_append]); (repeat rw [nums_length])
          have := hsg
          have l1 : (⟨#[58]⟩ : ByteArray).size = 1 := rfl
          unfold maxLen
          omega
        have a12 : N1 + (⟨#[58]⟩ : ByteArray).size ≤ 140737488355328 := by
          rw [hN1]
          (repeat rw [List.length_append]); (repeat rw [nums_length])
          have := hsg
          have l1 : (⟨#[58]⟩ : ByteArray).size = 1 := rfl
          omega
        obtain ⟨N2, hN2⟩ : ∃ N, N = (Y ++ nums n ++ nums (⟨#[58]⟩ : ByteArray)).length := ⟨_, rfl⟩
        have HN2 := hide hN2
        have a21 : N2 + r.size ≤ maxLen := by
          rw [hN2]
          (repeat rw [List.length_append]); (repeat rw [nums_length])
          have := hsg
          have l1 : (⟨#[58]⟩ : ByteArray).size = 1 := rfl
          unfold maxLen
          omega
        have a22 : N2 + r.size ≤ 140737488355328 := by
          rw [hN2]
          (repeat rw [List.length_append]); (repeat rw [nums_length])
          have := hsg
          have l1 : (⟨#[58]⟩ : ByteArray).size = 1 := rfl
          omega
        obtain ⟨N3, hN3⟩ : ∃ N, N = (Y ++ nums n ++ nums (⟨#[58]⟩ : ByteArray) ++ nums r).length := ⟨_, rfl⟩
        have HN3 := hide hN3
        have a31 : N3 + (sgO k).size ≤ maxLen := by
          rw [hN3]
          (repeat rw [List.length_append]); (repeat rw [nums_length])
          have := hsg
          have l1 : (⟨#[58]⟩ : ByteArray).size = 1 := rfl
          unfold maxLen
          omega
        have a32 : N3 + (sgO k).size ≤ 140737488355328 := by
          rw [hN3]
          (repeat rw [List.length_append]); (repeat rw [nums_length])
          have := hsg
          have l1 : (⟨#[58]⟩ : ByteArray).size = 1 := rfl
          omega
        have h4 : (Y ++ nums n ++ nums (⟨#[58]⟩ : ByteArray) ++ nums r ++ nums (sgO k)).length + 3 * (i.size + f.size) + 3 * (a.map ByteArray.size).sum + a.length + 1 ≤ 1000000 := by
          (repeat rw [List.length_append]); (repeat rw [nums_length])
          have := hsg
          have l1 : (⟨#[58]⟩ : ByteArray).size = 1 := rfl
          omega
        clear hl hsg hN0 hN1 hN2 hN3
        go_enter Tryz.func32, Tryz.ntmps32
        go_upto_region 5 with (first
          | (at_builtin; refine Lib.wpList_append_own_string _ rfl _ _ 44 9 rfl w0.heap.size 5 i0 Tryz.underlying44 Tryz.underlying9 hi hz0 hz1 hz2 _ N0 _ rfl (Ob.own (unhide HN0) (unhide L0).own) n rfl a01 a02 (hB1) ?_; intro v1 w1 hown hgrow hnil; clear hnil; have L1 := hide ((unhide L0).step hB1 hgrow (Ob.push_str (unhide HN0) hown)); clear hown hgrow; obtain ⟨m0, m1, m2, m3, m4, m5, m6, m7, m8, m9, m10⟩ := cells11 ((unhide L1).kp _ _ _ HBX (by decide))))
        have BK := (unhide L1).kp _ _ _ HBX (by decide)
        have HSS : Hid (∀ W : World, W.heap[w.heap.size]? = some (.cells (cFl k n v i a1 a.length c1 f hi' hf' r false a2 kids.length c2) 27) → W.cell? ⟨w.heap.size, 8, none⟩ = some (.string r)) := fun W hW => (cells11 hW).2.2.2.2.2.2.2.2.1
        have BKd : (w1.drew).heap[w.heap.size]? = some (.cells (cFl k n v i a1 a.length c1 f hi' hf' r false a2 kids.length c2) 27) := BK
        have LD := hide ((unhide L1).grow hB1 (Below.refl w1.heap.size w1).drew)
        go_region_held3 (fun W => W.cell? ⟨w.heap.size, 8, none⟩ = some (.string r)) (first | with_reducible exact unhide HSS _ BK | with_reducible exact unhide HSS _ BKd | with_reducible exact unhide HSS _ BK6 | with_reducible exact unhide HSS _ BK7 | assumption | go_keep)
          (first
            | (refine step_append_str (by rfl) _ _ 44 9 (by rfl) w0.heap.size 5 i0 Tryz.underlying44 Tryz.underlying9 hi hz0 hz1 hz2 _ N2 _ (by rfl) (Ob.own (unhide HN2) (unhide L6).own) r (by rfl) a21 a22 ((unhide L6).big hB1) ?_; intro v7 w7 hown hgrow; have L7 := hide ((unhide L6).step hB1 hgrow (Ob.push_str (unhide HN2) hown)); clear hown hgrow; have BK7 := (unhide L7).kp _ _ _ HBX (by decide))
            | (refine step_append_str (by rfl) _ _ 44 9 (by rfl) w0.heap.size 5 i0 Tryz.underlying44 Tryz.underlying9 hi hz0 hz1 hz2 _ N1 _ (by rfl) (Ob.own (unhide HN1) (unhide LD).own) (⟨#[58]⟩ : ByteArray) (by rfl) a11 a12 ((unhide LD).big hB1) ?_; intro v6 w6 hown hgrow; have L6 := hide ((unhide LD).step hB1 hgrow (Ob.push_str (unhide HN1) hown)); clear hown hgrow; have BK6 := (unhide L6).kp _ _ _ HBX (by decide)))
        obtain ⟨m0, m1, m2, m3, m4, m5, m6, m7, m8, m9, m10⟩ := cells11 BK7
        go_wp2_with (first
          | (go_at_call 49; refine (unhide CP _ _ _ (unhide L9).own (tb.trans (unhide L9).bel) h4).mono ?_; rintro e w10 ⟨v10, rfl, hA⟩; have L10 := hide ((unhide L9).trans hA); clear hA)
          | (at_builtin; refine Lib.wpList_append_own_string _ rfl _ _ 44 9 rfl w0.heap.size 5 i0 Tryz.underlying44 Tryz.underlying9 hi hz0 hz1 hz2 _ N3 _ rfl (Ob.own (unhide HN3) (unhide L8).own) (sgO k) rfl a31 a32 ((unhide L8).big hB1) ?_; intro v9 w9 hown hgrow hnil; clear hnil; have L9 := hide ((unhide L8).step hB1 hgrow (Ob.push_str (unhide HN3) hown)); clear hown hgrow; obtain ⟨m0, m1, m2, m3, m4, m5, m6, m7, m8, m9, m10⟩ := cells11 ((unhide L9).kp _ _ _ HBX (by decide)))
          | (go_at_call 48; refine (unhide CS _ (tb.trans (unhide L7).bel)).mono ?_; rintro e w8 ⟨rfl, g8⟩; have L8 := hide ((unhide L7).grow hB1 g8.below)))
        go_ret
        refine ⟨_, rfl, ?_⟩
        have z := (unhide L10).off (B := w0.heap.size) (w := w) hB B1
        rw [unhide HIT]
        simp only [List.append_assoc] at z ⊢
        exact z
      have z4 : (k == 4) = false := by rw [beq_eq_false_iff_ne]; exact h4k
      have HIT : Hid (itemT k n v i a f r d = nums n ++ ((nums (⟨#[58]⟩ : ByteArray) ++ (nums r ++ (nums (sgO k) ++ (vTxt (nums v))))))) := by
        show _ = _
        unfold itemT
        rw [if_neg hd, if_neg hr, if_neg h7, if_neg h4k]
        rfl
      have er : r.toList.isEmpty = false := by rw [emp_sz, decide_eq_false]; intro h; exact hr ((sz0 r).1 h)
      obtain rfl : d = false := by simpa using hd
      clear hr hd
      clear h7 h4k
      obtain ⟨N0, hN0⟩ : ∃ N, N = (Y).length := ⟨_, rfl⟩
      have HN0 := hide hN0
      have a01 : N0 + n.size ≤ maxLen := by
        rw [hN0]
        (repeat rw [List.length_append]); (repeat rw [nums_length])
        have := hsg
        have l1 : (⟨#[58]⟩ : ByteArray).size = 1 := rfl
        unfold maxLen
        omega
      have a02 : N0 + n.size ≤ 140737488355328 := by
        rw [hN0]
        (repeat rw [List.length_append]); (repeat rw [nums_length])
        have := hsg
        have l1 : (⟨#[58]⟩ : ByteArray).size = 1 := rfl
        omega
      obtain ⟨N1, hN1⟩ : ∃ N, N = (Y ++ nums n).length := ⟨_, rfl⟩
      have HN1 := hide hN1
      have a11 : N1 + (⟨#[58]⟩ : ByteArray).size ≤ maxLen := by
        rw [hN1]
        (repeat rw [List.length_append]); (repeat rw [nums_length])
        have := hsg
        have l1 : (⟨#[58]⟩ : ByteArray).size = 1 := rfl
        unfold maxLen
        omega
      have a12 : N1 + (⟨#[58]⟩ : ByteArray).size ≤ 140737488355328 := by
        rw [hN1]
        (repeat rw [List.length_append]); (repeat rw [nums_length])
        have := hsg
        have l1 : (⟨#[58]⟩ : ByteArray).size = 1 := rfl
        omega
      obtain ⟨N2, hN2⟩ : ∃ N, N = (Y ++ nums n ++ nums (⟨#[58]⟩ : ByteArray)).length := ⟨_, rfl⟩
      have HN2 := hide hN2
      have a21 : N2 + r.size ≤ maxLen := by
        rw [hN2]
        (repeat rw [List.length_append]); (repeat rw [nums_length])
        have := hsg
        have l1 : (⟨#[58]⟩ : ByteArray).size = 1 := rfl
        unfold maxLen
        omega
      have a22 : N2 + r.size ≤ 140737488355328 := by
        rw [hN2]
        (repeat rw [List.length_append]); (repeat rw [nums_length])
        have := hsg
        have l1 : (⟨#[58]⟩ : ByteArray).size = 1 := rfl
        omega
      obtain ⟨N3, hN3⟩ : ∃ N, N = (Y ++ nums n ++ nums (⟨#[58]⟩ : ByteArray) ++ nums r).length := ⟨_, rfl⟩
      have HN3 := hide hN3
      have a31 : N3 + (sgO k).size ≤ maxLen := by
        rw [hN3]
        (repeat rw [List.length_append]); (repeat rw [nums_length])
        have := hsg
        have l1 : (⟨#[58]⟩ : ByteArray).size = 1 := rfl
        unfold maxLen
        omega
      have a32 : N3 + (sgO k).size ≤ 140737488355328 := by
        rw [hN3]
        (repeat rw [List.length_append]); (repeat rw [nums_length])
        have := hsg
        have l1 : (⟨#[58]⟩ : ByteArray).size = 1 := rfl
        omega
      have h4 : (Y ++ nums n ++ nums (⟨#[58]⟩ : ByteArray) ++ nums r ++ nums (sgO k)).length + 3 * v.size ≤ 1000000 := by
        (repeat rw [List.length_append]); (repeat rw [nums_length])
        have := hsg
        have l1 : (⟨#[58]⟩ : ByteArray).size = 1 := rfl
        omega
      clear hl hsg hN0 hN1 hN2 hN3
      go_enter Tryz.func32, Tryz.ntmps32
      go_upto_region 5 with (first
        | (at_builtin; refine Lib.wpList_append_own_string _ rfl _ _ 44 9 rfl w0.heap.size 5 i0 Tryz.underlying44 Tryz.underlying9 hi hz0 hz1 hz2 _ N0 _ rfl (Ob.own (unhide HN0) (unhide L0).own) n rfl a01 a02 (hB1) ?_; intro v1 w1 hown hgrow hnil; clear hnil; have L1 := hide ((unhide L0).step hB1 hgrow (Ob.push_str (unhide HN0) hown)); clear hown hgrow; obtain ⟨m0, m1, m2, m3, m4, m5, m6, m7, m8, m9, m10⟩ := cells11 ((unhide L1).kp _ _ _ HBX (by decide))))
      have BK := (unhide L1).kp _ _ _ HBX (by decide)
      have HSS : Hid (∀ W : World, W.heap[w.heap.size]? = some (.cells (cFl k n v i a1 a.length c1 f hi' hf' r false a2 kids.length c2) 27) → W.cell? ⟨w.heap.size, 8, none⟩ = some (.string r)) := fun W hW => (cells11 hW).2.2.2.2.2.2.2.2.1
      have BKd : (w1.drew).heap[w.heap.size]? = some (.cells (cFl k n v i a1 a.length c1 f hi' hf' r false a2 kids.length c2) 27) := BK
      have LD := hide ((unhide L1).grow hB1 (Below.refl w1.heap.size w1).drew)
      go_region_held3 (fun W => W.cell? ⟨w.heap.size, 8, none⟩ = some (.string r)) (first | with_reducible exact unhide HSS _ BK | with_reducible exact unhide HSS _ BKd | with_reducible exact unhide HSS _ BK6 | with_reducible exact unhide HSS _ BK7 | assumption | go_keep)
        (first
          | (refine step_append_str (by rfl) _ _ 44 9 (by rfl) w0.heap.size 5 i0 Tryz.underlying44 Tryz.underlying9 hi hz0 hz1 hz2 _ N2 _ (by rfl) (Ob.own (unhide HN2) (unhide L6).own) r (by rfl) a21 a22 ((unhide L6).big hB1) ?_; intro v7 w7 hown hgrow; have L7 := hide ((unhide L6).step hB1 hgrow (Ob.push_str (unhide HN2) hown)); clear hown hgrow; have BK7 := (unhide L7).kp _ _ _ HBX (by decide))
          | (refine step_append_str (by rfl) _ _ 44 9 (by rfl) w0.heap.size 5 i0 Tryz.underlying44 Tryz.underlying9 hi hz0 hz1 hz2 _ N1 _ (by rfl) (Ob.own (unhide HN1) (unhide LD).own) (⟨#[58]⟩ : ByteArray) (by rfl) a11 a12 ((unhide LD).big hB1) ?_; intro v6 w6 hown hgrow; have L6 := hide ((unhide LD).step hB1 hgrow (Ob.push_str (unhide HN1) hown)); clear hown hgrow; have BK6 := (unhide L6).kp _ _ _ HBX (by decide)))
      obtain ⟨m0, m1, m2, m3, m4, m5, m6, m7, m8, m9, m10⟩ := cells11 BK7
      go_wp2_with (first
        | (go_at_call 50; refine (unhide CA _ _ _ (unhide L9).own ((unhide L9).big hB1) h4).mono ?_; rintro e w10 ⟨v10, rfl, hA⟩; have L10 := hide ((unhide L9).trans hA); clear hA)
        | (at_builtin; refine Lib.wpList_append_own_string _ rfl _ _ 44 9 rfl w0.heap.size 5 i0 Tryz.underlying44 Tryz.underlying9 hi hz0 hz1 hz2 _ N3 _ rfl (Ob.own (unhide HN3) (unhide L8).own) (sgO k) rfl a31 a32 ((unhide L8).big hB1) ?_; intro v9 w9 hown hgrow hnil; clear hnil; have L9 := hide ((unhide L8).step hB1 hgrow (Ob.push_str (unhide HN3) hown)); clear hown hgrow; obtain ⟨m0, m1, m2, m3, m4, m5, m6, m7, m8, m9, m10⟩ := cells11 ((unhide L9).kp _ _ _ HBX (by decide)))
        | (go_at_call 48; refine (unhide CS _ (tb.trans (unhide L7).bel)).mono ?_; rintro e w8 ⟨rfl, g8⟩; have L8 := hide ((unhide L7).grow hB1 g8.below)))
      go_ret
      refine ⟨_, rfl, ?_⟩
      have z := (unhide L10).off (B := w0.heap.size) (w := w) hB B1
      rw [unhide HIT]
      simp only [List.append_assoc] at z ⊢
      exact z

end Go.Proofs.YthbldkkjjjmegaaGreatDoor
