/- The document's Is and Below of layer 20. -/
import Derived.Test.YtoaoplfbnjajiaaRIs20
namespace Go.Proofs.Ytoaoplfbnjajiaa
open Go.RowKit

theorem ln_len (l : List Ty) : ∀ (k : Nat) (a : Ty), (lnF l k a).length ≤ k + 1
  | 0, _ => by simp [lnF]
  | k + 1, a => by
    rw [lnF]
    cases fndT l a.abv with
    | none => simp
    | some b =>
      have := ln_len l k b
      simp
      omega
theorem line_len (l : List Ty) (n : ByteArray) : (lineT l n).length ≤ 26 := by
  unfold lineT
  cases hf : findT l n with
  | none => simp
  | some a =>
    have hk := (find_some hf).1
    unfold okT at hk
    rw [Bool.and_eq_true] at hk
    have h1 := of_decide_eq_true hk.1
    have := ln_len l (l.length + 1) a
    simp only
    omega
theorem any_no {L : List ByteArray} {a : ByteArray} (h : ∀ i, i < L.length → L.getD i te ≠ a) : (L.any fun x => decide (x = a)) = false := by
  rw [List.any_eq_false]
  intro x hx
  obtain ⟨i, hi, rfl⟩ := List.getElem_of_mem hx
  have := h i hi
  simpa [List.getD, hi] using this
theorem any_yes {L : List ByteArray} {a : ByteArray} {i : Nat} (hi : i < L.length) (h : L.getD i te = a) : (L.any fun x => decide (x = a)) = true := by
  rw [List.any_eq_true]
  exact ⟨L.getD i te, by simp [List.getD, hi], by simpa using h⟩
set_option maxHeartbeats 1600000 in
theorem ris_any (v : Value) (l : List Ty) (n a : ByteArray) (w : World) (hV : TysV w v l) : Calls Try.prog 17 #[v, .string n, .string a] w fun e w' => e = .returned (.bool (isT l n a)) ∧ Below w.heap.size w w' := by
  have CL := hide (rline_any v l n w hV)
  have hlen := line_len l n
  have HI : Hid (isT l n a = (lineT l n).any fun x => decide (x = a)) := rfl
  obtain ⟨va, vc, rfl⟩ := hV.shape
  clear hV
  generalize isT l n a = R at *
  generalize lineT l n = L at *
  go_enter Try.func17, Try.ntmps17
  go_wp2_with (go_at_call 20; refine (unhide CL).mono ?_; rintro e w1 ⟨u, rfl, hu, b1⟩; obtain ⟨ua, uc, rfl, _, hc⟩ := hu.ts (by omega); have HC := hide hc; clear hu hc)
  go_loop [8] (fun i => ∃ k : Nat, k ≤ L.length ∧ i = .int .i64 (k : Int) ∧ Hid (∀ j, j < k → L.getD j te ≠ a)) (fun i => L.length - (intOf i).toNat)
  case atStart => exact ⟨0, Nat.zero_le _, rfl, fun j hj => absurd hj (Nat.not_lt_zero _)⟩
  case round =>
    obtain ⟨k, hk, rfl, HK⟩ := hrel
    by_cases hlt : k < L.length
    · have hzl : (k : Int) < (L.length : Int) := by omega
      have hz0 : (0 : Int) ≤ (k : Int) := by omega
      obtain ⟨b, off, rfl, hcc⟩ := unhide HC (by omega)
      have q1 := hcc k hlt
      have HG : Hid (L.getD k te = L.getD k te) := rfl
      have hq := txt_beq (L.getD k te) a
      by_cases h : L.getD k te = a
      · rw [decide_eq_true h] at hq
        have HE : Hid (true = R) := by show _ = _; rw [unhide HI, any_yes hlt h]
        clear h HK hcc HC HG
        generalize L.getD k te = x at *
        go_wp2
        go_ret
        exact ⟨ret_bool (unhide HE), b1⟩
      · rw [decide_eq_false h] at hq
        have HK2 : Hid (∀ j, j < k + 1 → L.getD j te ≠ a) := fun j hj => by
          by_cases e : j = k
          · rw [e]; exact h
          · exact unhide HK j (by omega)
        clear h HK hcc HC HG
        generalize L.getD k te = x at *
        go_wp2
        go_round
        case rel => exact ⟨k + 1, by omega, by go_num, unhide HK2⟩
        case measure => simp [intOf]; omega
    · have hzl : ¬ (k : Int) < (L.length : Int) := by omega
      have HE : Hid (false = R) := by show _ = _; rw [unhide HI, any_no (fun i hi => unhide HK i (by omega))]
      clear HK
      go_wp2
      go_ret
      exact ⟨ret_bool (unhide HE), b1⟩
/-- Is a type below one of some? -/
def bl (l : List Ty) (ns : List ByteArray) (x : Ty) : Bool := ns.any fun n => isT l x.nam n
def belTo (l : List Ty) (ns : List ByteArray) (i : Nat) : List ByteArray := ((l.take i).filter (bl l ns)).map (·.nam)
theorem belTo_next {l : List Ty} {ns : List ByteArray} {i : Nat} (h : i < l.length) : belTo l ns (i + 1) = if bl l ns (l.getD i ty0) = true then belTo l ns i ++ [(l.getD i ty0).nam] else belTo l ns i := by
  unfold belTo
  rw [List.take_succ_eq_append_getElem h, List.filter_append, List.map_append]
  have e : l.getD i ty0 = l[i] := by simp [List.getD, h]
  rw [e]
  cases hb : bl l ns l[i] <;> simp [hb]
theorem belTo_all (l : List Ty) (ns : List ByteArray) : belTo l ns l.length = belT l ns := by
  unfold belTo belT bl
  rw [List.take_length]
theorem belTo_len (l : List Ty) (ns : List ByteArray) (i : Nat) : (belTo l ns i).length ≤ i := by
  unfold belTo
  rw [List.length_map]
  exact Nat.le_trans (List.length_filter_le _ _) (by rw [List.length_take]; omega)
/-- Of the first k names. -/
def bk (l : List Ty) (ns : List ByteArray) (x : Ty) (k : Nat) : Bool := (ns.take k).any fun n => isT l x.nam n
theorem bk_next {l : List Ty} {ns : List ByteArray} {x : Ty} {k : Nat} (h : k < ns.length) : bk l ns x (k + 1) = (bk l ns x k || isT l x.nam (ns.getD k te)) := by
  unfold bk
  rw [List.take_succ_eq_append_getElem h, List.any_append]
  simp [List.getD, h]
theorem bk_all (l : List Ty) (ns : List ByteArray) (x : Ty) : bk l ns x ns.length = bl l ns x := by unfold bk bl; rw [List.take_length]
set_option maxHeartbeats 3200000 in
theorem rbel_any (v u : Value) (l : List Ty) (ns : List ByteArray) (w : World) (hV : TysV w v l) (hN : TsV w u ns) (hl : l.length ≤ 100000) : Calls Try.prog 22 #[v, u] w fun e w' => ∃ r, e = .returned r ∧ Tx w.heap.size r (belT l ns) w' ∧ Below w.heap.size w w' := by
  have mx : Try.prog.follows .mixedOrders = true := by kernel_rfl
  obtain ⟨i0, hi, hz0, hz1, hz2⟩ := info_parts str_info
  have CI := hide (fun n a W (hb : Below w.heap.size w W) => ris_any v l n a W (hV.below hb))
  obtain ⟨va, vc, rfl, _, hcv⟩ := hV
  obtain ⟨ua, uc, rfl, hnn, hcu⟩ := hN
  have HCV := hide hcv
  have HCU := hide hcu
  clear hcv hcu
  go_enter Try.func22, Try.ntmps22
  go_wp2
  go_loopw [5, 6] (fun vo vi wr => ∃ i : Nat, i ≤ l.length ∧ vi = .int .i64 (i : Int) ∧ Hid (Tx w.heap.size vo (belTo l ns i) wr) ∧ Below w.heap.size w wr) (fun _ i _ => l.length - (intOf i).toNat)
  case atStart => exact ⟨0, Nat.zero_le _, rfl, Tx.nil _ _, Below.refl _ _⟩
  case round =>
    obtain ⟨i, hile, rfl, HT, hb⟩ := hrel
    have hsz := hb.size
    by_cases hlt : i < l.length
    · have hzl : (i : Int) < (l.length : Int) := by omega
      have hz0' : (0 : Int) ≤ (i : Int) := by omega
      obtain ⟨b, off, rfl, hcc⟩ := unhide HCV (by omega)
      obtain ⟨e0, _⟩ := hcc i hlt
      have HE0 := hide e0
      have HNX := hide (belTo_next (ns := ns) hlt)
      have hbl := belTo_len l ns i
      clear hcc e0
      generalize l.getD i ty0 = y at *
      generalize hX : belTo l ns i = X at *
      clear hX
      go_wp2
      go_loopw [7, 8] (fun vm vk ws => ∃ (k : Nat) (m : Bool), k ≤ ns.length ∧ vk = .int .i64 (k : Int) ∧ vm = .bool m ∧ Hid (m = bk l ns y k) ∧ Hid (Tx w.heap.size u5 X ws) ∧ Below w.heap.size w ws) (fun _ k _ => ns.length - (intOf k).toNat)
      case atStart => exact ⟨0, false, Nat.zero_le _, rfl, rfl, rfl, unhide HT, hb⟩
      case round =>
        obtain ⟨k, m, hkl, rfl, rfl, HM, HT2, hb2⟩ := hrel
        have hsz2 := hb2.size
        have q1 := (hb2.cell (cell_lt (unhide HE0))).trans (unhide HE0)
        by_cases hlt2 : k < ns.length
        · have yzl : (k : Int) < (ns.length : Int) := by omega
          have yz0 : (0 : Int) ≤ (k : Int) := by omega
          obtain ⟨b3, o3, rfl, hp1⟩ := unhide HCU (by omega)
          have p1 := (hb2.cell (cell_lt (hp1 k hlt2))).trans (hp1 k hlt2)
          have HBN := hide (bk_next (l := l) (x := y) hlt2)
          clear hp1
          generalize ns.getD k te = nk at *
          replace q1 := cell_bb q1
          replace p1 := cell_bb p1
          cases m
          · have CX := hide (fun p : BB wr => unhide CI y.nam nk p.W (hb2.trans (p.b.mono hb2.size)))
            rw [← unhide HM, Bool.false_or] at HBN
            generalize isT l y.nam nk = z at *
            go_wp2
            refine wp_region_below (by first | exact mx | assumption) (by kernel_rfl) ?_
            intro nebb
            repeat (go_big_quiet_step ((go_at_call 17; exact callsBB (unhide CX _))))
            refine wpQuiet_nil ?_
            intro _ hw'
            obtain ⟨pq, hw''⟩ := hw'
            subst hw''
            have bq := pq.b
            generalize pq.W = wq at *
            go_wp2
            go_roundw
            case rel => exact ⟨k + 1, z, by omega, by go_num, rfl, (unhide HBN).symm, (unhide HT2).below bq, hb2.trans (bq.mono hb2.size)⟩
            case measure => simp [intOf]; omega
          · rw [← unhide HM, Bool.true_or] at HBN
            go_wp2
            refine wp_region_below (by first | exact mx | assumption) (by kernel_rfl) ?_
            intro nebb
            repeat (go_big_quiet_step (fail))
            refine wpQuiet_nil ?_
            intro _ hw'
            obtain ⟨pq, hw''⟩ := hw'
            subst hw''
            have bq := pq.b
            generalize pq.W = wq at *
            go_wp2
            go_roundw
            case rel => exact ⟨k + 1, true, by omega, by go_num, rfl, (unhide HBN).symm, (unhide HT2).below bq, hb2.trans (bq.mono hb2.size)⟩
            case measure => simp [intOf]; omega
        · have yzl : ¬ (k : Int) < (ns.length : Int) := by omega
          obtain rfl : k = ns.length := by omega
          rw [bk_all] at HM
          rw [← unhide HM] at HNX
          obtain ⟨N, hN⟩ : ∃ N, N = X.length := ⟨_, rfl⟩
          have HN := hide hN
          rw [← hN] at hbl
          have hm1 : N + 1 ≤ maxLen := by unfold maxLen; omega
          have hm2 : (N + 1) * 16 ≤ 140737488355328 := by omega
          clear hN
          cases m
          · rw [if_neg (by decide)] at HNX
            go_wp2
            go_roundw
            case rel => exact ⟨i + 1, by omega, by go_num, by rw [unhide HNX]; exact unhide HT2, hb2⟩
            case measure => simp [intOf]; omega
          · rw [if_pos rfl] at HNX
            go_wp2_with (at_builtin; refine wpList_append_lies _ rfl _ _ 36 rfl w.heap.size 9 i0 _ 1 16 Try.underlying36 hi hz0 hz1 hz2 rfl (by omega) _ N _ rfl (World.ownsRow.alloc (Tx.own (unhide HN) (unhide HT2)) _) ⟨wr.heap.size, 0, none⟩ 1 1 [.string _] rfl rfl (World.news_of_block (cs := #[.string _]) (t := 9) (fr := (0, 0)) (heap_new wr _)) (by simp [Value.oneCell']) (by omega) hm1 hm2 (by simp; omega) (wr.heap.size + 1) (by simp) ?_; intro g9 cap9 w9 hown9 hgrow9 hat9 hlt9; have hb9 := hb2.trans (below_own (grown_one hgrow9) hsz2 (own_block (Tx.own (unhide HN) (unhide HT2)))); have HT9 := hide (Tx.push (unhide HN) hown9); clear hown9 hgrow9 hat9 hlt9)
            go_roundw
            case rel => exact ⟨i + 1, by omega, by go_num, by rw [unhide HNX]; exact unhide HT9, hb9⟩
            case measure => simp [intOf]; omega
    · have hzl : ¬ (i : Int) < (l.length : Int) := by omega
      obtain rfl : i = l.length := by omega
      rw [belTo_all] at HT
      go_wp2
      go_ret
      exact ⟨_, rfl, unhide HT, hb⟩
end Go.Proofs.Ytoaoplfbnjajiaa
