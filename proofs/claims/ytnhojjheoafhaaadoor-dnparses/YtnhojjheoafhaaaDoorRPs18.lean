/- The document's Parse and Rdn of layer 18. -/
import Derived.Test.YtnhojjheoafhaaaDoorRPr18
import Derived.Test.YtnhojjheoafhaaaDoorRChk18
import Derived.Test.YtnhojjheoafhaaaDoorDn18
namespace Go.Proofs.YtnhojjheoafhaaaDoor
set_option maxRecDepth 100000
open Go.RowKit

/-- All of a list, each told by a function, or none. -/
def allO {β : Type} (f : List Int → Option β) : List (List Int) → Option (List β)
  | [] => some []
  | q :: t =>
    match f q with
    | none => none
    | some y =>
      match allO f t with
      | none => none
      | some r => some (y :: r)
/-- A part's pairs. -/
def fR (q : List Int) : Option (List Pr) := rdR (cutG 43 [] q)
theorem rdR_all : ∀ l, rdR l = allO pR l
  | [] => rfl
  | q :: t => by
    rw [rdR, allO, rdR_all t]
    cases pR q <;> cases allO pR t <;> rfl
theorem nmR_all : ∀ l, nmR l = allO fR l
  | [] => rfl
  | q :: t => by
    rw [nmR, allO, nmR_all t]
    unfold fR
    cases rdR (cutG 43 [] q) <;> cases allO (fun q => rdR (cutG 43 [] q)) t <;> rfl
/-- What is told so far. -/
def atO {β : Type} (f : List Int → Option β) (l : List (List Int)) (k : Nat) (r : List β) : Prop := allO f l = (allO f (l.drop k)).map (r ++ ·)
theorem atO_start {β : Type} (f : List Int → Option β) (l : List (List Int)) : atO f l 0 [] := by
  unfold atO
  rw [List.drop_zero]
  cases allO f l <;> simp
theorem drop_consL (l : List (List Int)) (i : Nat) (h : i < l.length) : l.drop i = l.getD i [] :: l.drop (i + 1) := by
  rw [List.drop_eq_getElem_cons h]
  simp [List.getD, h]
theorem atO_step {β : Type} {f : List Int → Option β} {l : List (List Int)} {k : Nat} {r : List β} {y : β} (h : atO f l k r) (hk : k < l.length) (hy : f (l.getD k []) = some y) : atO f l (k + 1) (r ++ [y]) := by
  unfold atO at *
  rw [h, drop_consL l k hk, allO, hy]
  simp only
  cases allO f (l.drop (k + 1)) <;> simp
theorem atO_none {β : Type} {f : List Int → Option β} {l : List (List Int)} {k : Nat} {r : List β} (h : atO f l k r) (hk : k < l.length) (hy : f (l.getD k []) = none) : allO f l = none := by
  unfold atO at *
  rw [h, drop_consL l k hk, allO, hy]
  rfl
theorem atO_end {β : Type} {f : List Int → Option β} {l : List (List Int)} {k : Nat} {r : List β} (h : atO f l k r) (hk : l.length ≤ k) : allO f l = some r := by
  unfold atO at *
  rw [h, List.drop_eq_nil_of_le hk, allO]
  simp
theorem getD_nums_map (ps : List ByteArray) (k : Nat) (h : k < ps.length) : (ps.map nums).getD k [] = nums (ps.getD k ByteArray.empty) := by simp [List.getD, h]
theorem getD_memB (ps : List ByteArray) (k : Nat) (h : k < ps.length) : ps.getD k ByteArray.empty ∈ ps := by simp [List.getD, h]
theorem cut_some {d : Int} {l : List Int} {ps : List ByteArray} (h : ps.map nums = cutG d [] l) : 0 < ps.length := by
  obtain ⟨q, qs, hc, _⟩ := cutG_pre d _ l [] [] (Nat.le_refl _)
  rw [hc] at h
  have := congrArg List.length h
  simp at this
  omega
theorem Pt.up {B C D : Nat} {vn : Value} {vs : List Value} {n : List (List Pr)} {w : World} (h : Pt B C vn (.slice none 0 0) vs n [] w) (h1 : C ≤ D) (h2 : D ≤ w.heap.size) : Pt B D vn (.slice none 0 0) vs n [] w :=
  ⟨h.len, h.own, fun j hj => ⟨(h.each j hj).1, fun g hg => Nat.lt_of_lt_of_le ((h.each j hj).2 g hg) h1⟩, Rp.nil _ _, Nat.le_trans h.big h1, h2⟩
theorem Pt.bel_rr {B C : Nat} {vn vr : Value} {vs : List Value} {n : List (List Pr)} {r : List Pr} {w w0 w2 : World} (h : Pt B C vn vr vs n r w) (hb : Below C w0 w) (hg : w.grownBy w2 vr.ownBlock) : Below C w0 w2 :=
  hb.trans (below_own hg h.le (own_block h.row))
theorem Rp.shape3 {w : World} {B : Nat} {v : Value} {r : List Pr} (h : Rp B v r w) : ∃ a l c, v = .slice a l c := by
  rcases h.2 with ⟨hv, _⟩ | ⟨g, cap, cur, hv, _⟩
  · exact ⟨_, _, _, hv⟩
  · exact ⟨_, _, _, hv⟩
set_option maxHeartbeats 12800000 in
theorem rdparse_any (s : ByteArray) (w : World) :
    Calls Tryd.prog 5 #[.string s] w fun e w' => ∃ v, e = .returned (.tuple #[v, .int .i64 (parE (nums s))]) ∧ NmV w' v (parN (nums s)) ∧ Below w.heap.size w w' := by
  have hnl := nums_length s
  by_cases h1 : 3000 < s.size
  · obtain ⟨e1, e2⟩ := par_long (l := nums s) (by omega)
    rw [e1, e2]
    have z1 : 3000 < (s.size : Int) := by omega
    clear e1 e2
    go_enter Tryd.func5, Tryd.ntmps5
    go_wp2
    go_ret2
    exact ⟨_, rfl, NmV.nil _ _ _, Below.refl _ _⟩
  have z1 : ¬ 3000 < (s.size : Int) := by omega
  by_cases h2 : s.size = 0
  · have en : nums s = [] := List.length_eq_zero_iff.1 (by omega)
    rw [en, par_empty.1, par_empty.2]
    have hem := toList_none h2
    clear en hnl h2
    go_enter Tryd.func5, Tryd.ntmps5
    go_wp2
    go_ret2
    exact ⟨_, rfl, NmV.nil _ _ _, Below.refl _ _⟩
  have hem := toList_some (show 0 < s.size by omega)
  obtain ⟨i0, hi, hz0, hz1, hz2⟩ := info_parts pair_info
  obtain ⟨j0, ji, jz0, jz1, jz2⟩ := info_parts rdn_info
  have CC := hide (rcut_any s 44 (by decide) w (by omega))
  have CD := hide (fun t W (h : t.size ≤ s.size) => rcut_any t 43 (by decide) W (by omega))
  have CP := hide (fun t W (h : t.size ≤ s.size) => rdpair_any t W (by omega))
  have CK := hide (fun v n W h => (rcheck_any v n W h).mono fun _ _ ⟨a, b⟩ => (⟨a, b.symm⟩ : _ ∧ W = _))
  have HNO : Hid (allO fR (cutG 44 [] (nums s)) = none → parN (nums s) = [] ∧ parE (nums s) = 220) := fun h => by
    refine par_no (by omega) (by omega) ?_
    rw [doc_same _ (fun x hx => nums_bound s x hx), nmR_all, h]
  have HYN : Hid (∀ N, allO fR (cutG 44 [] (nums s)) = some N → okN N = false → parN (nums s) = [] ∧ parE (nums s) = 220) := fun N h hk => by
    refine par_no (by omega) (by omega) ?_
    rw [doc_same _ (fun x hx => nums_bound s x hx), nmR_all, h]
    simp only
    rw [hk, if_neg (by decide)]
  have HYY : Hid (∀ N, allO fR (cutG 44 [] (nums s)) = some N → okN N = true → parN (nums s) = N ∧ parE (nums s) = 0) := fun N h hk => by
    refine par_yes (by omega) (by omega) ?_
    rw [doc_same _ (fun x hx => nums_bound s x hx), nmR_all, h]
    simp only
    rw [hk, if_pos rfl]
  generalize parN (nums s) = R at *
  generalize parE (nums s) = E at *
  have hs3 : s.size ≤ 3000 := by omega
  clear h1 h2 hnl
  go_enter Tryd.func5, Tryd.ntmps5
  go_wp2_with (go_at_call 12; refine (unhide CC).mono ?_; rintro e w1 ⟨v1, ps, rfl, hps, hpz, hpl, htx, b1⟩; have hp0 := cut_some hps; obtain ⟨g1, cp1, rfl, hce⟩ := Tx.at htx hp0; have HPS := hide hps; have HPZ := hide hpz; have HCE := hide hce; clear hps hpz hce htx)
  rw [← unhide HPS] at HNO HYN HYY
  go_loopw [4, 6] (fun vn vi wr => ∃ (i : Nat) (n : List (List Pr)) (vs : List Value) (C : Nat), vi = .int .i64 (i : Int) ∧ i ≤ ps.length ∧ n.length = i ∧ (∀ q ∈ n, q.length ≤ 3001) ∧ Hid (atO fR (ps.map nums) i n) ∧ Hid (Pt w1.heap.size C vn (.slice none 0 0) vs n [] wr) ∧ Below w1.heap.size w1 wr) (fun _ i _ => ps.length - (intOf i).toNat)
  case atStart => exact ⟨0, [], [], _, rfl, Nat.zero_le _, rfl, fun q hq => by simp at hq, atO_start _ _, Pt.start w1, Below.refl _ _⟩
  case round =>
    obtain ⟨i, n, vs, C, rfl, hip, hnl, hql, HA, HT, hb⟩ := hrel
    have HQL := hide hql
    clear hql
    by_cases hlt : i < ps.length
    · have hzl : (i : Int) < (ps.length : Int) := by omega
      have hz0' : (0 : Int) ≤ (i : Int) := by omega
      have q1 := (hb.cell (cell_lt (unhide HCE i hlt))).trans (unhide HCE i hlt)
      have hpz := unhide HPZ _ (getD_memB ps i hlt)
      have HGM := hide (getD_nums_map ps i hlt)
      generalize ps.getD i ByteArray.empty = t at *
      have CE := hide (unhide CD t wr hpz)
      obtain ⟨Nn, hNn⟩ : ∃ N, N = n.length := ⟨_, rfl⟩
      have HNn := hide hNn
      have hm3 : Nn + 1 ≤ maxLen := by unfold maxLen; omega
      have hm4 : (Nn + 1) * 24 ≤ 140737488355328 := by omega
      clear hNn
      clear CC CD
      go_wp2_with (go_at_call 12; refine (unhide CE).mono ?_; rintro e w2 ⟨v2, qs, rfl, hqs, hqz, hql, htx2, b2⟩; have hq0 := cut_some hqs; obtain ⟨g2, cp2, rfl, hce2⟩ := Tx.at htx2 hq0; have HQS := hide hqs; have HQZ := hide hqz; have HCE2 := hide hce2; clear hqs hqz hce2 htx2; have HT2 := hide (((unhide HT).below b2).up (Nat.le_trans (unhide HT).le b2.size) (Nat.le_refl _)); have hb2 := hb.trans (b2.mono hb.size))
      go_loopw [7, 9] (fun vr vk w3 => ∃ (k : Nat) (r : List Pr), vk = .int .i64 (k : Int) ∧ k ≤ qs.length ∧ r.length = k ∧ Hid (atO pR (qs.map nums) k r) ∧ Hid (Pt w1.heap.size w2.heap.size u4 vr vs n r w3) ∧ Below w2.heap.size w2 w3) (fun _ k _ => qs.length - (intOf k).toNat)
      case atStart => exact ⟨0, [], rfl, Nat.zero_le _, rfl, atO_start _ _, unhide HT2, Below.refl _ _⟩
      case round =>
        obtain ⟨k, r, rfl, hkq, hrl, HB, HT3, hb3⟩ := hrel
        rename World => w3
        by_cases hlt2 : k < qs.length
        · have yzl : (k : Int) < (qs.length : Int) := by omega
          have yz0 : (0 : Int) ≤ (k : Int) := by omega
          have q2 := (hb3.cell (cell_lt (unhide HCE2 k hlt2))).trans (unhide HCE2 k hlt2)
          have hqz := unhide HQZ _ (getD_memB qs k hlt2)
          have HGQ := hide (getD_nums_map qs k hlt2)
          generalize qs.getD k ByteArray.empty = u at *
          have CQ := hide (fun W => unhide CP u W (Nat.le_trans hqz hpz))
          cases hp : pR (nums u) with
          | none =>
            have HE : Hid (R = [] ∧ E = 220) := by
              refine unhide HNO (atO_none (unhide HA) (by rw [List.length_map]; exact hlt) ?_)
              rw [unhide HGM]
              unfold fR
              rw [← unhide HQS, rdR_all]
              exact atO_none (unhide HB) (by rw [List.length_map]; exact hlt2) (by rw [unhide HGQ]; exact hp)
            have HR : Hid (∀ x y ok, pdOk (nums u) x y ok → ok = false) := fun x y ok h => by unfold pdOk at h; rw [hp] at h; exact h
            obtain ⟨rfl, rfl⟩ := unhide HE
            clear hp HE HB HA
            go_wp2_with (go_at_call 13; refine (unhide CQ _).mono ?_; rintro e w4 ⟨x, y, ok, rfl, h4, b4⟩; obtain rfl := unhide HR _ _ _ h4; clear h4)
            go_ret2
            exact ⟨_, rfl, NmV.nil _ _ _, b1.trans ((hb2.trans ((hb3.trans ((b4.alloc b4.size _).mono hb3.size)).mono hb2.size)).mono b1.size)⟩
          | some p =>
            have HR : Hid (∀ x y ok, pdOk (nums u) x y ok → ok = true ∧ x = p.nam ∧ y = p.val) := fun x y ok h => by unfold pdOk at h; rw [hp] at h; exact h
            have HB2 := hide (atO_step (unhide HB) (by rw [List.length_map]; exact hlt2) (by rw [unhide HGQ]; exact hp))
            obtain ⟨Nr, hNr⟩ : ∃ N, N = r.length := ⟨_, rfl⟩
            have HNr := hide hNr
            have hm1 : Nr + 1 ≤ maxLen := by unfold maxLen; omega
            have hm2 : (Nr + 1) * 32 ≤ 140737488355328 := by omega
            clear hp HB hNr
            go_wp2_with (first
              | (at_builtin; refine wpList_append_lies _ rfl _ _ 30 rfl w2.heap.size 44 i0 _ 2 32 Tryd.underlying30 hi hz0 hz1 hz2 rfl (by omega) _ Nr _ rfl (World.ownsRow.alloc (Rp.own (unhide HNr) (unhide T4).row) _) ⟨w4.heap.size + 1, 0, none⟩ 1 1 [.string p.nam, .string p.val] rfl rfl (World.news_of_block (cs := #[.string p.nam, .string p.val]) (t := 44) (fr := (0, 0)) (unhide HNB)) (by simp [Value.oneCell']) (by omega) hm1 hm2 (by simp; omega) (w4.heap.size + 2) (by simp) ?_; intro g9 cap9 w9 hown9 hgrow9 hat9 hlt9; have T9 := hide ((unhide T4).pair (grown_new hgrow9) (Rp.push (unhide HNr) hown9)); have hb9 := (unhide T4).bel_rr hb4 (grown_new hgrow9); clear hown9 hgrow9 hat9 hlt9)
              | (go_at_call 13; refine (unhide CQ _).mono ?_; rintro e w4 ⟨x, y, ok, rfl, h4, b4⟩; obtain ⟨rfl, rfl, rfl⟩ := unhide HR _ _ _ h4; clear h4; have T4 := hide (((unhide HT3).below b4).below (Below.one _ _) : Pt _ _ _ _ _ _ _ (w4.alloc (.cells #[.string p.nam, .string p.val] 44))); have hb4 := (hb3.trans (b4.mono hb3.size)).alloc (Nat.le_trans hb3.size b4.size) (.cells #[.string p.nam, .string p.val] 44); have HNB : Hid (((w4.alloc (.cells #[.string p.nam, .string p.val] 44)).alloc (.cells #[.string p.nam, .string p.val] 44)).heap[w4.heap.size + 1]? = some (.cells #[.string p.nam, .string p.val] 44)) := (two_new w4 _ _); have hC := (unhide T4).le; rw [World.size_alloc] at hC))
            go_roundw
            case rel => exact ⟨k + 1, r ++ [p], by go_num, by omega, by rw [List.length_append, hrl]; rfl, unhide HB2, unhide T9, hb9⟩
            case measure => simp [intOf]; omega
        · have yzl : ¬ (k : Int) < (qs.length : Int) := by omega
          have HA2 : Hid (atO fR (ps.map nums) (i + 1) (n ++ [r])) := by
            refine atO_step (unhide HA) (by rw [List.length_map]; exact hlt) ?_
            rw [unhide HGM]
            unfold fR
            rw [← unhide HQS, rdR_all]
            exact atO_end (unhide HB) (by rw [List.length_map]; omega)
          have HQ2 : Hid (∀ q ∈ n ++ [r], q.length ≤ 3001) := all_len (unhide HQL) (by omega)
          have hb13 := hb2.trans (hb3.mono hb2.size)
          have hC3 := hb13.size
          obtain ⟨ra, rl, rc, hvr⟩ := (unhide HT3).row.shape3
          subst hvr
          clear HA HB
          go_wp2_with (at_builtin; refine wpList_append_lies _ rfl _ _ 23 rfl w1.heap.size 30 j0 _ 1 24 Tryd.underlying23 ji jz0 jz1 jz2 rfl (by omega) _ Nn _ rfl (World.ownsRow.alloc ((unhide HT3).ownN (unhide HNn)) _) ⟨w3.heap.size, 0, none⟩ 1 1 [.slice ra rl rc] rfl rfl (World.news_of_block (cs := #[.slice ra rl rc]) (t := 30) (fr := (0, 0)) (heap_new w3 _)) (by simp [Value.oneCell']) (by omega) hm3 hm4 (by simp; omega) (w3.heap.size + 1) (by simp) ?_; intro gA capA wA hownA hgrowA hatA hltA; have TA := hide ((unhide HT3).part (grown_new hgrowA) (by rw [← unhide HNn]; exact hownA)); have hbA := (unhide HT3).bel_n hb13 (grown_new hgrowA); clear hownA hgrowA hatA hltA)
          go_roundw
          case rel => exact ⟨i + 1, n ++ [r], _, _, by go_num, by omega, by rw [List.length_append, hnl]; rfl, unhide HQ2, unhide HA2, unhide TA, hbA⟩
          case measure => simp [intOf]; omega
    · have hzl : ¬ (i : Int) < (ps.length : Int) := by omega
      have HN := atO_end (unhide HA) (show (ps.map nums).length ≤ i by rw [List.length_map]; omega)
      have HV := hide ((unhide HT).nm (by omega) (fun q hq => by have := unhide HQL q hq; omega))
      have CQ := hide (unhide CK _ _ _ (unhide HV))
      have bb := b1.trans (hb.mono b1.size)
      cases hk : okN n
      · obtain ⟨rfl, rfl⟩ := unhide HYN n HN hk
        rw [chk_no hk] at CQ
        clear hk HN HA HT
        go_wp2_with (go_at_call 14; refine (unhide CQ).mono ?_; rintro e w5 ⟨rfl, rfl⟩)
        go_ret2
        exact ⟨_, rfl, NmV.nil _ _ _, bb⟩
      · obtain ⟨rfl, rfl⟩ := unhide HYY n HN hk
        rw [chk_yes hk] at CQ
        clear hk HN HA HT
        go_wp2_with (go_at_call 14; refine (unhide CQ).mono ?_; rintro e w5 ⟨rfl, rfl⟩)
        go_ret2
        exact ⟨_, rfl, unhide HV, bb⟩
set_option maxHeartbeats 3200000 in
theorem rdrdn_any (s : ByteArray) (w : World) :
    Calls Tryd.prog 7 #[.string s] w fun e w' => ∃ v, e = .returned (.tuple #[v, .int .i64 (rdnE (nums s))]) ∧ PsV w' v (rdnN (nums s)) ∧ Below w.heap.size w w' := by
  have CP := hide (rdparse_any s w)
  by_cases h1 : parE (nums s) = 0
  · by_cases h2 : (parN (nums s)).length = 1
    · have e1 : rdnN (nums s) = (parN (nums s)).getD 0 [] := by unfold rdnN; rw [if_pos ⟨h1, h2⟩]
      have e2 : rdnE (nums s) = 0 := by unfold rdnE; rw [if_neg (by omega), if_pos h2]
      rw [e1, e2]
      rw [h1] at CP
      clear h1 e1 e2
      generalize parN (nums s) = n at *
      go_enter Tryd.func7, Tryd.ntmps7
      go_wp2_with (go_at_call 5; refine (unhide CP).mono ?_; rintro e w2 ⟨v, rfl, hv, b2⟩; obtain ⟨a, cap, rfl, hc1, hc2, hcc⟩ := hv; obtain ⟨b, off, rfl, hce⟩ := hcc (by omega); obtain ⟨rv, c0, hps⟩ := hce 0 (by omega); rw [Nat.add_zero] at c0; rw [h2]; have HPS := hide hps; clear hps hce hcc hc1 hc2)
      go_ret2
      exact ⟨_, rfl, unhide HPS, b2⟩
    · have e1 : rdnN (nums s) = [] := by unfold rdnN; rw [if_neg (fun h => h2 h.2)]
      have e2 : rdnE (nums s) = 220 := by unfold rdnE; rw [if_neg (by omega), if_neg h2]
      rw [e1, e2]
      rw [h1] at CP
      have z : (((parN (nums s)).length : Int) == 1) = false := by rw [beq_eq_false_iff_ne]; omega
      clear h1 e1 e2 h2
      generalize parN (nums s) = n at *
      go_enter Tryd.func7, Tryd.ntmps7
      go_wp2_with (go_at_call 5; refine (unhide CP).mono ?_; rintro e w2 ⟨v, rfl, hv, b2⟩; obtain ⟨a, cap, rfl, hc1, hc2, hcc⟩ := hv; clear hcc hc1 hc2)
      go_ret2
      exact ⟨_, rfl, PsV.nil _ _ _, b2⟩
  · have e1 : rdnN (nums s) = [] := by unfold rdnN; rw [if_neg (fun h => h1 h.1)]
    have e2 : rdnE (nums s) = parE (nums s) := by unfold rdnE; rw [if_pos h1]
    rw [e1, e2]
    have z : (parE (nums s) == 0) = false := by rw [beq_eq_false_iff_ne]; exact h1
    clear e1 e2
    generalize parE (nums s) = x at *
    go_enter Tryd.func7, Tryd.ntmps7
    go_wp2_with (go_at_call 5; refine (unhide CP).mono ?_; rintro e w2 ⟨v, rfl, hv, b2⟩; clear hv)
    go_ret2
    exact ⟨_, rfl, PsV.nil _ _ _, b2⟩
end Go.Proofs.YtnhojjheoafhaaaDoor
