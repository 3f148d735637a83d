/- A row of the call's own behind another; the document's Firm and Value. -/
import Derived.Test.YtdlbdfndnjdeeaaRVal11
import Derived.Laws.AppendOwnNone
import Derived.Maps.AppendAt
namespace Go.Proofs.Ytdlbdfndnjdeeaa
open Go.RowKit

/-- append of a row of the call's own, be it nil or not. -/
theorem wpList_append_rn (w : World) {ops : Array Oper} {rest : List Oper} {o : Oper} {a : Act} {Q : Exit → Act → World → Prop} (hgd : o.guard = none) (s x : Operand)
    (ho : o.op = .call { callee := .builtin .append, args := #[s, x], argTypes := #[22, 22] })
    (base : Nat) (i : TypeInfo) (hi : Try.prog.info? 21 = some i) (hz : i.zero = some (.int .i32 0)) (hsize : i.size = 1) (hby : i.bytes = 4)
    (v : Value) (n : Nat) (xs : List Value) (hs : a.eval s = v) (hown : w.ownsRow base 21 1 v n xs)
    (u : Value) (l : List Int) (C : Nat) (hx : a.eval x = u) (hu : Rn C u l w) (h63 : n + l.length ≤ maxLen) (hbytes : (n + l.length) * 4 ≤ 140737488355328) (hbase : base ≤ w.heap.size)
    (h : ∀ v' w', w'.ownsRow base 21 1 v' (n + l.length) (xs ++ l.map (Value.int .i32)) → w.grownBy w' v.ownBlock → wpList Try.prog ops Q rest (a.put o.dst v') w') :
    wpList Try.prog ops Q (o :: rest) a w := by
  have hu' := hu
  rcases hu.2 with ⟨hv, h0⟩ | ⟨g, cap, cur, hv, _⟩
  · have hl : l = [] := List.length_eq_zero_iff.1 h0
    subst hl hv
    refine wpList_append_own_none hgd s x 22 ho base 21 i 1 Try.underlying22 hi v n xs hs hown hx (h v w (by simpa using hown) ?_)
    exact ⟨rfl, rfl, rfl, Nat.le_refl _, fun _ _ _ => rfl⟩
  · subst hv
    exact wpList_append_own_at w hgd s x 22 ho base 21 i _ 1 4 Try.underlying22 hi hz hsize hby rfl (by omega) v n xs hs hown ⟨g, 0, none⟩ l.length cap (l.map (Value.int .i32)) hx (by simp) (Rn.all hu') (ints_one _) h63 hbytes hbase fun v' w' h2 h3 _ _ => h v' w' h2 h3
theorem news_of_cells {w : World} {b off : Nat} {l : List Int} (hcc : ∀ j, j < l.length → w.cell? ⟨b, off + j, none⟩ = some (.int .i32 (l.getD j 0))) : ∀ j u, (l.map (Value.int .i32))[j]? = some u → w.cell? ((⟨b, off, none⟩ : Addr).add j) = some u := fun j u hu => by
  have hj : j < l.length := by have := (List.getElem?_eq_some_iff.1 hu).1; simpa using this
  have e : (⟨b, off, none⟩ : Addr).add j = ⟨b, off + j, none⟩ := by unfold Addr.add; split <;> simp_all
  have hu' : u = .int .i32 (l.getD j 0) := by
    rw [List.getElem?_map, List.getElem?_eq_getElem hj] at hu
    simp at hu
    rw [← hu]
    simp [List.getD, hj]
  rw [e, hu']
  exact hcc j hj
set_option maxHeartbeats 800000 in
theorem rfirm_any (v : Value) (l : List Int) (w : World) (hlen : l.length ≤ 10000) (hR : Row w v l) :
    Calls Try.prog 29 #[v] w fun e w' => ∃ v', e = .returned v' ∧ Row w' v' (firmL mk11 l) ∧ Below w.heap.size w w' := by
  obtain ⟨i0, hi, hz0, hz1, hz2⟩ := info_parts elem_info
  by_cases h0 : 0 < l.length
  · have hR' := hR
    obtain ⟨a, cap, rfl, hc⟩ := hR
    obtain ⟨b, off, rfl, hcc⟩ := hc h0
    have hz : (0 : Int) < (l.length : Int) := by omega
    have c1 := hcc 0 h0
    rw [Nat.add_zero] at c1
    have HK := hide (rkind_any (l.getD 0 0))
    have HF : Hid (fre mk11 l = !decide (kd (l.getD 0 0) = 3)) := by
      show _ = _
      obtain ⟨x, t, rfl⟩ := List.exists_cons_of_ne_nil (List.length_pos_iff.1 h0)
      simp [fre, mk11]
    have HNW : Hid (∀ (w1 : World) (o : Obj), Below w.heap.size w w1 → ∀ j u, (l.map (Value.int .i32))[j]? = some u → (w1.alloc o).cell? ((⟨b, off, none⟩ : Addr).add j) = some u) := fun w1 o hb => news_of_cells fun j hj => (Gr.one w1 o).cell ((hb.cell (by exact cell_lt (hcc j hj))).trans (hcc j hj))
    generalize l.getD 0 0 = x at *
    generalize kd x = q at *
    by_cases hq : q = 3
    · subst hq
      have HE : Hid (firmL mk11 l = 32 :: l) := by show _ = _; unfold firmL; rw [unhide HF]; simp
      have HLM : Hid ((l.map (Value.int .i32)).length = l.length) := by show _ = _; simp
      have HON := hide (ints_one l)
      clear hcc hc
      have HRN : Hid (∀ (v' : Value) (w' : World), w'.ownsRow w.heap.size 21 1 v' (1 + l.length) ([.int .i32 32] ++ l.map (Value.int .i32)) → Row w' v' (32 :: l)) := fun v' w' h => by
        refine Rn.row (B := w.heap.size) ?_
        unfold Rn
        simpa [Nat.add_comm] using h
      generalize l.map (Value.int .i32) = news at *
      generalize l.length = n at *
      have hm1 : 1 + n ≤ maxLen := by unfold maxLen; omega
      go_enter Try.func29, Try.ntmps29
      go_wp2_with (first
        | (go_at_call 39; refine (unhide HK _).mono ?_; rintro e w1 ⟨rfl, b1⟩; have hs1 := b1.size)
        | (at_builtin; refine wpList_append_lies _ rfl _ _ 22 rfl w.heap.size 21 i0 _ 1 4 Try.underlying22 hi hz0 hz1 hz2 rfl (by omega) _ 1 [.int .i32 32] rfl ((Rn.new1 w1 32).base hs1) ⟨b, off, none⟩ n cap news rfl (by rw [unhide HLM, Nat.mul_one]) (unhide HNW w1 _ b1) (unhide HON) h0 hm1 (by omega) (by simp; omega) (w1.heap.size + 1) (by simp) ?_; intro g9 cap9 w9 hown9 hgrow9 hat9 hlt9))
      go_ret
      rw [unhide HE]
      exact ⟨_, rfl, unhide HRN _ _ hown9, (b1.alloc (by omega) _).trans (below_own hgrow9 (by simp; omega) (own_block ((Rn.new1 w1 32).base hs1)))⟩
    · have HE : Hid (firmL mk11 l = l) := by show _ = _; unfold firmL; rw [unhide HF]; simp [hq]
      have hqz : (q == 3) = false := by simpa using hq
      go_enter Try.func29, Try.ntmps29
      go_wp2_with (go_at_call 39; refine (unhide HK _).mono ?_; rintro e w1 ⟨rfl, b1⟩)
      go_ret
      rw [unhide HE]
      exact ⟨_, rfl, hR'.below b1, b1⟩
  · obtain rfl : l = [] := List.length_eq_zero_iff.1 (by omega)
    have hR' := hR
    obtain ⟨a, cap, rfl, hc⟩ := hR
    go_enter Try.func29, Try.ntmps29
    go_wp2
    go_ret
    exact ⟨_, rfl, hR', Below.refl _ _⟩
theorem val_inn_len (l : List Int) (h : l.length ≤ 10000) : (inn mk11 false false (firmL mk11 l)).length ≤ 40000 := by
  have h1 := inn_len (M := mk11) (firmL mk11 l) false false
  have h2 : (firmL mk11 l).length ≤ l.length + 1 := by unfold firmL; split <;> simp
  omega
set_option maxHeartbeats 1600000 in
theorem rvalue_any (v : Value) (l : List Int) (w : World) (hlen : l.length ≤ 9000) (hR : Row w v l) :
    Calls Try.prog 11 #[v] w fun e w' => ∃ v', e = .returned v' ∧ Rn w.heap.size v' (valL mk11 l) w' ∧ Below w.heap.size w w' := by
  obtain ⟨i0, hi, hz0, hz1, hz2⟩ := info_parts elem_info
  have HF := hide (fun o => rfirm_any v l (w.alloc o) (by omega) (hR.below (Below.one w o)))
  have HI := hide (fun v1 w1 => rinner_any v1 (firmL mk11 l) w1 (by have : (firmL mk11 l).length ≤ l.length + 1 := (by unfold firmL; split <;> simp); omega))
  have hil := val_inn_len l (by omega)
  unfold valL
  clear hR
  generalize inn mk11 false false (firmL mk11 l) = m at *
  generalize firmL mk11 l = fl at *
  obtain ⟨n, hn⟩ : ∃ n, n = m.length := ⟨_, rfl⟩
  rw [← hn] at hil
  have HN := hide hn
  clear hn
  have hm1 : 1 + n ≤ maxLen := by unfold maxLen; omega
  have hm2 : (1 + n) * 4 ≤ 140737488355328 := by omega
  have hm3 : 1 + n + 1 ≤ maxLen := by unfold maxLen; omega
  have hm4 : (1 + n + 1) * 4 ≤ 140737488355328 := by omega
  go_enter Try.func11, Try.ntmps11
  go_wp2_with (first
    | (go_at_call 29; refine (unhide HF _).mono ?_; rintro e w1 ⟨v1, rfl, r1, b1⟩; have hb1 := (Below.one w _).trans (b1.mono (by simp)); have hs1 := hb1.size; have O1 := hide ((Rn.new1 w 32).below b1); have R1 := hide r1; clear r1)
    | (go_at_call 28; refine (unhide HI _ _ (unhide R1)).mono ?_; rintro e w2 ⟨v2, rfl, r2, b2⟩; have hb2 := hb1.trans (b2.mono hs1); have hs2 := hb2.size; have O2 := hide ((unhide O1).below b2); have R2 := hide r2; clear r2; obtain ⟨a2, c2, hv2⟩ := (unhide R2).shape; rw [← unhide HN] at hv2; subst hv2)
    | (at_builtin; refine wpList_append_rn _ rfl _ _ rfl w.heap.size i0 hi hz0 hz1 hz2 _ 1 _ rfl (Rn.own rfl (unhide O2)) _ m w1.heap.size rfl (unhide R2) (by rw [← unhide HN]; exact hm1) (by rw [← unhide HN]; exact hm2) (by omega) ?_; intro v5 w5 hown5 hgrow5; rw [← unhide HN] at hown5; have hb5 := hb2.trans (below_own hgrow5 (by omega) (own_block (Rn.own rfl (unhide O2)))); have hs5 := hb5.size; have O5 := hide hown5; clear hown5 hgrow5)
    | (at_builtin; refine wpList_append_lies _ rfl _ _ 22 rfl w.heap.size 21 i0 _ 1 4 Try.underlying22 hi hz0 hz1 hz2 rfl (by omega) _ (1 + n) _ rfl (World.ownsRow.alloc (unhide O5) _) ⟨w5.heap.size, 0, none⟩ 1 1 [.int .i32 32] rfl rfl (World.news_of_block (cs := #[.int .i32 32]) (t := 21) (fr := (0, 0)) (heap_new w5 _)) (by simp [Value.oneCell']) (by omega) hm3 hm4 (by simp; omega) (w5.heap.size + 1) (by simp) ?_; intro g9 cap9 w9 hown9 hgrow9 hat9 hlt9; have hb9 := (hb5.alloc (by omega) _).trans (below_own hgrow9 (by simp; omega) (own_block (unhide O5)))))
  go_ret
  refine ⟨_, rfl, ?_, hb9⟩
  show Rn _ _ _ _
  unfold Rn
  rw [List.length_cons, List.length_append, ← unhide HN]
  simpa [Nat.add_comm, Nat.add_left_comm] using hown9
end Go.Proofs.Ytdlbdfndnjdeeaa
