/- The contracts of the landed attrs, in the laws' form. -/
import Derived.Test.YtjjildpdelkejaaM11
namespace Go.Proofs.Ytjjildpdelkejaa
open Go.RowKit

/-- What the variables hold that the calls read: none is read. -/
def Ly (_ : World) : Prop := True
theorem Ly.keep {w w2 : World} (_ : Ly w) (_ : Below w.heap.size w w2) : Ly w2 := trivial
set_option maxHeartbeats 800000 in
theorem acheck_any (v : Value) (l : List Ty) (w : World) (_ : Ly w) (_ : fewT l = true) (hV : TysV w v l) : Calls Try.prog 25 #[v] w fun e w' => e = .returned (.int .i64 (chkT l)) ∧ Below w.heap.size w w' := by
  have C := hide (may_any v l w hV)
  obtain ⟨va, vc, rfl⟩ := hV.shape
  clear hV
  cases hk : okT l
  · rw [hk] at C
    rw [chk_bad hk]
    clear hk
    go_enter Try.func25, Try.ntmps25
    go_wp2_with (go_at_call 46; refine (unhide C).mono ?_; rintro e w1 ⟨rfl, b1⟩)
    go_ret
    exact ⟨rfl, b1⟩
  · rw [hk] at C
    rw [chk_ok hk]
    clear hk
    go_enter Try.func25, Try.ntmps25
    go_wp2_with (go_at_call 46; refine (unhide C).mono ?_; rintro e w1 ⟨rfl, b1⟩)
    go_ret
    exact ⟨rfl, b1⟩
theorem fnd_same {l : List Ty} (h : okT l = true) (n : ByteArray) : fnA l n = fndA l n ∧ fnB l n = fndB l n := by
  unfold fnA fnB fndA fndB
  rw [find_ok h]
  exact ⟨rfl, rfl⟩
theorem metb_is (l : List Ty) (n a : ByteArray) : metB l n [a] = isT l n a := by
  unfold metB isT hasT
  simp
theorem one_ts (W : World) (a : ByteArray) (T : TypeId) : TsV (W.alloc (.cells #[.string a] T)) (.slice (some ⟨W.heap.size, 0, none⟩) 1 1) [a] := by
  refine ⟨_, _, rfl, ⟨by simp, by simp⟩, fun _ => ⟨W.heap.size, 0, rfl, fun j hj => ?_⟩⟩
  obtain rfl : j = 0 := by simp at hj; exact hj
  exact (box_at rfl).cell
set_option maxHeartbeats 1600000 in
theorem ais_any (v : Value) (l : List Ty) (n a : ByteArray) (w : World) (_ : Ly w) (_ : fewT l = true) (hV : TysV w v l) : Calls Try.prog 22 #[v, .string n, .string a] w fun e w' => e = .returned (.bool (isT l n a)) ∧ Below w.heap.size w w' := by
  have CM := hide (may_any v l w hV)
  have HV := hide hV
  obtain ⟨va, vc, rfl⟩ := hV.shape
  clear hV
  cases hk : okT l
  · rw [hk] at CM
    have HE : Hid (false = isT l n a) := by show _ = _; unfold isT; rw [line_bad hk]; rfl
    clear hk
    generalize isT l n a = R at *
    go_enter Try.func22, Try.ntmps22
    go_wp2_with (go_at_call 46; refine (unhide CM).mono ?_; rintro e w1 ⟨rfl, b1⟩)
    go_ret
    exact ⟨ret_bool (unhide HE), b1⟩
  · rw [hk] at CM
    have CT := hide (fun W (h : Below w.heap.size w W) => meets_any (.slice va l.length vc) (.slice (some ⟨W.heap.size, 0, none⟩) 1 1) l n [a] (W.alloc (.cells #[.string a] 9)) hk (((unhide HV).below h).below (Below.one W _)) (one_ts W a _))
    rw [metb_is] at CT
    clear hk
    generalize isT l n a = R at *
    go_enter Try.func22, Try.ntmps22
    go_wp2_with (first
      | (go_at_call 47; refine (unhide CT _ b1).mono ?_; rintro e w2 ⟨rfl, b2⟩)
      | (go_at_call 46; refine (unhide CM).mono ?_; rintro e w1 ⟨rfl, b1⟩; have t1 := b1.trans ((Below.one w1 (.cells #[.string a] 9)).mono b1.size)))
    go_ret
    exact ⟨rfl, t1.trans (b2.mono t1.size)⟩
theorem any_swap (L M : List ByteArray) : (L.any fun y => M.any fun z => decide (y = z)) = M.any fun z => L.any fun y => decide (y = z) := by
  rw [Bool.eq_iff_iff, List.any_eq_true, List.any_eq_true]
  constructor
  · rintro ⟨y, hy, h⟩
    obtain ⟨z, hz, h⟩ := List.any_eq_true.1 h
    exact ⟨z, hz, List.any_eq_true.2 ⟨y, hy, h⟩⟩
  · rintro ⟨z, hz, h⟩
    obtain ⟨y, hy, h⟩ := List.any_eq_true.1 h
    exact ⟨y, hy, List.any_eq_true.2 ⟨z, hz, h⟩⟩
theorem met_bl (l : List Ty) (ns : List ByteArray) (x : Ty) : metB l x.nam ns = bl l ns x := by
  unfold metB bl isT hasT
  exact any_swap _ _
theorem bel_len (l : List Ty) (ns : List ByteArray) : (belT l ns).length ≤ l.length := by rw [← belTo_all]; exact belTo_len l ns _
theorem bel_bad {l : List Ty} (h : okT l = false) (ns : List ByteArray) : belT l ns = [] := by
  have hf : ∀ x ∈ l, ¬ (ns.any fun n => isT l x.nam n) = true := fun x _ hq => by
    obtain ⟨n, _, hn⟩ := List.any_eq_true.1 hq
    unfold isT at hn
    rw [line_bad h] at hn
    cases hn
  unfold belT
  rw [List.filter_eq_nil_iff.2 hf]
  rfl
set_option maxHeartbeats 3200000 in
theorem abel_long (v u : Value) (l : List Ty) (ns : List ByteArray) (w : World) (_ : Ly w) (_ : fewT l = true) (hV : TysV w v l) (hN : TsV w u ns) : Calls Try.prog 40 #[v, u] w fun e w' => ∃ r, e = .returned r ∧ TsV w' r (belT l ns) ∧ Below w.heap.size w w' := by
  have CM := hide (may_any v l w hV)
  have HL := hide (bel_len l ns)
  obtain ⟨i0, hi, hz0, hz1, hz2⟩ := info_parts str_info
  have HV := hide hV
  have HN := hide hN
  obtain ⟨va, vc, rfl⟩ := hV.shape
  obtain ⟨ua, uc, rfl, _⟩ := hN
  clear hV
  cases hk : okT l
  · rw [hk] at CM
    rw [bel_bad hk]
    clear hk
    go_enter Try.func40, Try.ntmps40
    go_wp2_with (go_at_call 46; refine (unhide CM).mono ?_; rintro e w1 ⟨rfl, b1⟩)
    go_ret
    exact ⟨_, rfl, (Tx.nil 0 _).ts (by simp), b1⟩
  rw [hk] at CM
  have h24 := okT_24 hk
  have CT := hide (fun n W (h : Below w.heap.size w W) => meets_any _ _ l n ns W hk ((unhide HV).below h) ((unhide HN).below h))
  clear hk
  go_enter Try.func40, Try.ntmps40
  go_wp2_with (go_at_call 46; refine (unhide CM).mono ?_; rintro e w1 ⟨rfl, b1⟩)
  clear CM HN
  go_loopw [5, 13] (fun vo vi wr => ∃ i : Nat, i ≤ l.length ∧ vi = .int .i64 (i : Int) ∧ Hid (Tx w.heap.size vo (belTo l ns i) wr) ∧ Below w.heap.size w wr) (fun _ i _ => l.length - (intOf i).toNat)
  case atStart => exact ⟨0, Nat.zero_le _, rfl, Tx.nil _ _, b1⟩
  case round =>
    obtain ⟨i, hile, rfl, HT, hb⟩ := hrel
    have hsz := hb.size
    by_cases hlt : i < l.length
    · have hzl : (i : Int) < (l.length : Int) := by omega
      have hz0' : (0 : Int) ≤ (i : Int) := by omega
      obtain ⟨va', vc', hvv, hn9, hcc⟩ := (unhide HV).below hb
      cases hvv
      obtain ⟨b, off, rfl, hce⟩ := hcc (by omega)
      obtain ⟨d0, d1, d2, d3, d4, d5⟩ := hce i hlt
      have HNX := hide (belTo_next (ns := ns) hlt)
      have hbl := belTo_len l ns i
      have HM := hide (met_bl l ns (l.getD i ty0))
      clear hcc hce hn9
      generalize l.getD i ty0 = y at *
      generalize hX : belTo l ns i = X at *
      clear hX
      have o1 := Below.one wr (.cells #[.string y.nam, .string y.abv, .int .i64 y.syn, .int .i64 y.rul, .bool y.sgl, .bool y.cls] 65)
      have hb1 := hb.trans (o1.mono hsz)
      have C1 := hide (unhide CT y.nam _ hb1)
      rw [unhide HM] at C1
      have HB : Hid (Bt wr.heap.size y (wr.alloc (.cells #[.string y.nam, .string y.abv, .int .i64 y.syn, .int .i64 y.rul, .bool y.sgl, .bool y.cls] 65))) := heap_new wr _
      have HT1 := hide ((unhide HT).below o1)
      clear HM HT
      generalize bl l ns y = z at *
      obtain ⟨N, hN⟩ : ∃ N, N = X.length := ⟨_, rfl⟩
      have HN := hide hN
      rw [← hN] at hbl
      have hm1 : N + 1 ≤ maxLen := by unfold maxLen; omega
      have hm2 : (N + 1) * 16 ≤ 140737488355328 := by omega
      clear hN CT
      cases z
      · rw [if_neg (by decide)] at HNX
        go_wp2_with (go_at_call 47; refine (unhide C1).mono ?_; rintro e w3 ⟨rfl, b3⟩; have t3 := hb1.trans (b3.mono hb1.size); have HT3 := hide ((unhide HT1).below b3))
        go_roundw
        case rel => exact ⟨i + 1, by omega, by go_num, by rw [unhide HNX]; exact unhide HT3, t3⟩
        case measure => simp [intOf]; omega
      · rw [if_pos rfl] at HNX
        go_wp2_with (first
          | (at_builtin; refine wpList_append_lies _ rfl _ _ 32 rfl w.heap.size 9 i0 _ 1 16 Try.underlying32 hi hz0 hz1 hz2 rfl (by omega) _ N _ rfl (World.ownsRow.alloc (Tx.own (unhide HN) (unhide HT3)) _) ⟨w3.heap.size, 0, none⟩ 1 1 [.string _] rfl rfl (World.news_of_block (cs := #[.string _]) (t := 9) (fr := (0, 0)) (heap_new w3 _)) (by simp [Value.oneCell']) (by omega) hm1 hm2 (by simp; omega) (w3.heap.size + 1) (by simp) ?_; intro g9 cap9 w9 hown9 hgrow9 hat9 hlt9; have hb9 := t3.trans (below_own (grown_one hgrow9) hs3 (own_block (Tx.own (unhide HN) (unhide HT3)))); have HT9 := hide (Tx.push (unhide HN) hown9); clear hown9 hgrow9 hat9 hlt9)
          | (go_at_call 47; refine (unhide C1).mono ?_; rintro e w3 ⟨rfl, b3⟩; have t3 := hb1.trans (b3.mono hb1.size); have HT3 := hide ((unhide HT1).below b3); have q0 := ((unhide HB).keep b3).cells.1; have hs3 := t3.size))
        go_roundw
        case rel => exact ⟨i + 1, by omega, by go_num, by rw [unhide HNX]; exact unhide HT9, hb9⟩
        case measure => simp [intOf]; omega
    · have hzl : ¬ (i : Int) < (l.length : Int) := by omega
      obtain rfl : i = l.length := by omega
      rw [belTo_all] at HT
      have hl := unhide HL
      have HU := hide ((unhide HT).ts (by omega))
      clear HT
      go_wp2
      go_ret
      exact ⟨_, rfl, unhide HU, hb⟩
theorem abel_any (v u : Value) (l : List Ty) (ns : List ByteArray) (w : World) (hL : Ly w) (hF : fewT l = true) (hV : TysV w v l) (hN : TsV w u ns) (_ : ns.length ≤ 30) : Calls Try.prog 40 #[v, u] w fun e w' => ∃ r, e = .returned r ∧ TsV w' r (belT l ns) ∧ Below w.heap.size w w' := abel_long v u l ns w hL hF hV hN
theorem arul_any (s : Int) (w : World) (_ : Ly w) : Calls Try.prog 77 #[.int .i64 s] w fun e w' => ∃ u, e = .returned u ∧ Row w' u (rulL s) ∧ Below w.heap.size w w' := rules_any s w
end Go.Proofs.Ytjjildpdelkejaa
