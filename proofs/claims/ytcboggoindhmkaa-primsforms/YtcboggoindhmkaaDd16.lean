/- The program's deeper and slices.Clone of elements, of layer 16. -/
import Derived.Test.YtcboggoindhmkaaDb16
import Derived.Deep.RegionHeld3
namespace Go.Proofs.Ytcboggoindhmkaa
open Go.RowKit

/-- How many levels an element has. -/
def hgt : El → Nat
  | .mk _ _ _ _ els => 1 + L els
  where
  L : List El → Nat
  | [] => 0
  | e :: t => max (hgt e) (L t)
theorem hgt_els (e : El) : hgt e = 1 + hgt.L e.els := by
  cases e with
  | mk c m n s els => simp only [hgt]
theorem hgt_get : ∀ (l : List El) (i : Nat), i < l.length → hgt (l.getD i el0) ≤ hgt.L l
  | [], _, h => by simp at h
  | e :: t, 0, _ => by simp only [hgt.L, List.getD_cons_zero]; omega
  | e :: t, i + 1, h => by
    have := hgt_get t i (by simpa using h)
    simp only [hgt.L, List.getD_cons_succ]
    omega
set_option maxHeartbeats 1600000 in
theorem deeper_any (k : Nat) : k ≤ 65536 → ∀ (l : List El) (v : Value) (w : World), hgt.L l ≤ k → ElsV w v l → Calls Try.prog 50 #[.int .i64 (k : Int), v] w fun r w' => r = .returned (.bool false) ∧ Gr w w' := by
  induction k with
  | zero =>
    intro _ l v w hl hV
    have h0 : l = [] := by
      cases l with
      | nil => rfl
      | cons e t =>
        have := hgt_get (e :: t) 0 (by simp)
        have h2 := hgt_els e
        simp only [List.getD_cons_zero] at this
        omega
    subst h0
    obtain ⟨ad, cap, rfl, hn, hc⟩ := hV
    clear hc hn hl
    go_enter Try.func50, Try.ntmps50
    go_wp2
    refine wp_loop_rounds 1 ?_
    rw [rounds_succ]
    go_wp2
    go_ret
    exact ⟨rfl, Gr.refl _⟩
  | succ k ih =>
    intro hk l v w hl hV
    obtain ⟨ad, cap, rfl, hn, hc⟩ := hV
    have HIH := hide (ih (by omega))
    have HL := hide hc
    have HG := hide hl
    have hk2 : k ≤ 65535 := by omega
    clear ih hc hl hk
    have hw : IntKind.i64.wrap (((k + 1 : Nat) : Int) - 1) = (k : Int) := by rw [show ((k + 1 : Nat) : Int) - 1 = (k : Int) by omega]; exact wrap_in (by omega) (by omega)
    have hw2 : wrap64 (((k + 1 : Nat) : Int) - 1) = (k : Int) := by unfold wrap64; omega
    have hz : (((k + 1 : Nat) : Int) == 0) = false := by simpa using (by omega : ¬ ((k + 1 : Nat) : Int) = 0)
    obtain ⟨K, hK⟩ : ∃ K : Int, ((k + 1 : Nat) : Int) = K := ⟨_, rfl⟩
    rw [hK] at hw hw2 hz ⊢
    clear hK
    go_enter Try.func50, Try.ntmps50
    go_wp2
    go_loopw [9] (fun vi wr => ∃ i : Nat, i ≤ l.length ∧ vi = .int .i64 (i : Int) ∧ Gr w wr) (fun i _ => l.length - (intOf i).toNat)
    case atStart => exact ⟨0, Nat.zero_le _, rfl, Gr.refl _⟩
    case round =>
      obtain ⟨i, hi, rfl, hnx⟩ := hrel
      by_cases hlt : i < l.length
      · have hzl : (i : Int) < (l.length : Int) := by omega
        have hz0 : (0 : Int) ≤ (i : Int) := by omega
        obtain ⟨g, off, rfl, hl⟩ := (unhide HL).resolve_left (by omega)
        obtain ⟨ad', cap', q0, q1, q2, q3, q4, hv⟩ := hl.at i hlt
        have k0 := hnx.cell q0
        have k1 := hnx.cell q1
        have k2 := hnx.cell q2
        have k3 := hnx.cell q3
        have k4 := hnx.cell q4
        have hh : hgt.L (l.getD i el0).els ≤ k := by
          have h1 := hgt_get l i hlt
          have h2 := hgt_els (l.getD i el0)
          have h3 := unhide HG
          omega
        have CI := unhide HIH _ _ (wr.alloc (.cells #[.int .i64 (l.getD i el0).cls, .bool (l.getD i el0).made, .int .i64 (l.getD i el0).num, .string (l.getD i el0).con, .slice ad' (l.getD i el0).els.length cap'] 26)) hh (hv.els.below (hnx.alloc _).below)
        clear q0 q1 q2 q3 q4 hv hl HL HIH HG hh
        generalize l.getD i el0 = e at *
        go_wp2_with (go_at_call 50; refine CI.mono ?_; rintro r w2 ⟨rfl, g2⟩)
        go_roundw
        case rel => exact ⟨i + 1, by omega, by go_num, (hnx.alloc _).trans g2⟩
        case measure => simp [intOf]; omega
      · have hzl : ¬ (i : Int) < (l.length : Int) := by omega
        clear HL HIH HG
        go_wp2
        go_ret
        exact ⟨rfl, hnx⟩
theorem eqnil_some (ad : Addr) (n c : Nat) (w : World) : (binOp .eql 24 (.slice (some ad) n c) (.slice none 0 0)).run Try.prog w = .ok (.bool false) w := by kernel_rfl
theorem eqnil_none (n c : Nat) (w : World) : (binOp .eql 24 (.slice none n c) (.slice none 0 0)).run Try.prog w = .ok (.bool true) w := by kernel_rfl
/-- The cells of a row of elements, one behind the other. -/
def cellsV (w : World) : List El → Nat → Nat → List Value → Prop
  | [], _, _, cs => cs = []
  | e :: t, g, off, cs => ∃ ad cap r, cs = .int .i64 e.cls :: .bool e.made :: .int .i64 e.num :: .string e.con :: .slice ad e.els.length cap :: r ∧ w.cell? ⟨g, off, none⟩ = some (.int .i64 e.cls) ∧ w.cell? ⟨g, off + 1, none⟩ = some (.bool e.made) ∧ w.cell? ⟨g, off + 2, none⟩ = some (.int .i64 e.num) ∧ w.cell? ⟨g, off + 3, none⟩ = some (.string e.con) ∧ w.cell? ⟨g, off + 4, none⟩ = some (.slice ad e.els.length cap) ∧ ElsV w (.slice ad e.els.length cap) e.els ∧ cellsV w t g (off + 5) r
theorem cellsV.of {w : World} : ∀ (l : List El) (g off : Nat), ElV.L w l g off → ∃ cs, cellsV w l g off cs
  | [], _, _, _ => ⟨[], rfl⟩
  | e :: t, g, off, h => by
    simp only [ElV.L] at h
    obtain ⟨⟨a0, a1, a2, a3, a4, h0, h1, h2, h3, h4, hv⟩, ht⟩ := h
    obtain ⟨ad, cap, hv', _⟩ := hv.open
    cases hv'
    obtain ⟨cs, hcs⟩ := cellsV.of t g (off + 5) ht
    exact ⟨_, ad, cap, cs, rfl, h0, h1, h2, h3, h4, hv.els, hcs⟩
theorem cellsV.len {w : World} : ∀ {l : List El} {g off : Nat} {cs : List Value}, cellsV w l g off cs → cs.length = l.length * 5
  | [], _, _, _, h => by have : _ = [] := h; subst this; rfl
  | e :: t, g, off, cs, h => by
    obtain ⟨ad, cap, r, rfl, _, _, _, _, _, _, ht⟩ := h
    have := ht.len
    simp only [List.length_cons]
    omega
theorem cellsV.one {w : World} : ∀ {l : List El} {g off : Nat} {cs : List Value}, cellsV w l g off cs → ∀ u ∈ cs, u.oneCell' = true
  | [], _, _, _, h => by have : _ = [] := h; subst this; simp
  | e :: t, g, off, cs, h => by
    obtain ⟨ad, cap, r, rfl, _, _, _, _, _, _, ht⟩ := h
    intro u hu
    simp only [List.mem_cons] at hu
    rcases hu with rfl | rfl | rfl | rfl | rfl | hu
    · rfl
    · rfl
    · rfl
    · rfl
    · rfl
    · exact ht.one u hu
theorem cellsV.news {w : World} : ∀ {l : List El} {g off : Nat} {cs : List Value}, cellsV w l g off cs → ∀ j u, cs[j]? = some u → w.cell? ⟨g, off + j, none⟩ = some u
  | [], _, _, _, h => by have : _ = [] := h; subst this; simp
  | e :: t, g, off, cs, h => by
    obtain ⟨ad, cap, r, rfl, c0, c1, c2, c3, c4, _, ht⟩ := h
    intro j u hu
    match j, hu with
    | 0, hu => simp at hu; rw [← hu]; exact c0
    | 1, hu => simp at hu; rw [← hu]; exact c1
    | 2, hu => simp at hu; rw [← hu]; exact c2
    | 3, hu => simp at hu; rw [← hu]; exact c3
    | 4, hu => simp at hu; rw [← hu]; exact c4
    | j + 5, hu =>
      have := ht.news j u (by simpa using hu)
      rwa [show off + (j + 5) = off + 5 + j by omega]
/-- The cells of the element at a place. -/
theorem cellsV.at {w : World} : ∀ {l : List El} {g off : Nat} {cs : List Value}, cellsV w l g off cs → ∀ i, i < l.length → ∃ ad cap, cs[i * 5]? = some (.int .i64 (l.getD i el0).cls) ∧ cs[i * 5 + 1]? = some (.bool (l.getD i el0).made) ∧ cs[i * 5 + 2]? = some (.int .i64 (l.getD i el0).num) ∧ cs[i * 5 + 3]? = some (.string (l.getD i el0).con) ∧ cs[i * 5 + 4]? = some (.slice ad (l.getD i el0).els.length cap) ∧ ElsV w (.slice ad (l.getD i el0).els.length cap) (l.getD i el0).els
  | [], _, _, _, _, i, hi => by simp at hi
  | e :: t, g, off, cs, h, 0, _ => by
    obtain ⟨ad, cap, r, rfl, _, _, _, _, _, hv, _⟩ := h
    exact ⟨ad, cap, rfl, rfl, rfl, rfl, rfl, hv⟩
  | e :: t, g, off, cs, h, i + 1, hi => by
    obtain ⟨ad, cap, r, rfl, _, _, _, _, _, _, ht⟩ := h
    obtain ⟨ad', cap', h0, h1, h2, h3, h4, hv⟩ := ht.at i (by simpa using hi)
    refine ⟨ad', cap', ?_⟩
    rw [show (i + 1) * 5 = i * 5 + 5 by omega]
    simp only [List.getD_cons_succ]
    exact ⟨by simpa using h0, by simpa using h1, by simpa using h2, by simpa using h3, by simpa using h4, hv⟩
theorem own_nil5 (w : World) (B : Nat) (hB : B ≤ w.heap.size) : (w.alloc (.cells #[] 26)).ownsRow B 26 5 (.slice (some ⟨w.heap.size, 0, none⟩) 0 0) 0 [] :=
  ⟨rfl, .inr ⟨w.heap.size, 0, #[], rfl, hB, heap_new w _, Nat.le_refl _, Nat.zero_le _, rfl, rfl⟩⟩
set_option maxHeartbeats 1600000 in
theorem clone5_any (v : Value) (l : List El) (w : World) (hlen : l.length ≤ 1000) (hR : ElsV w v l) :
    Calls Try.prog 51 #[v] w fun e w' => ∃ v' cs, e = .returned v' ∧ w'.ownsRow w.heap.size 26 5 v' l.length cs ∧ Below w.heap.size w w' ∧ (l = [] ∨ ∃ g off, cellsV w l g off cs) := by
  obtain ⟨i0, hi, hz0, hz1, hz2⟩ := info_parts el_info
  obtain ⟨a, cap, rfl, hn, hc⟩ := hR
  cases a with
  | none =>
    have hl : l = [] := by
      rcases hc with h | ⟨g, off, h, _⟩
      · exact List.length_eq_zero_iff.1 h
      · cases h
    subst hl
    have hE := eqnil_none 0 cap
    go_enter Try.func51, Try.ntmps51
    go_wp2
    go_ret
    exact ⟨_, [], rfl, ⟨rfl, .inl ⟨rfl, rfl⟩⟩, Below.refl _ _, .inl trivial⟩
  | some ad =>
    by_cases h0 : 0 < l.length
    · obtain ⟨b, off, h, hcc⟩ := hc.resolve_left (by omega)
      cases h
      obtain ⟨news, hcs⟩ := cellsV.of l b off hcc
      have HNW : Hid (∀ j u, news[j]? = some u → (w.alloc (.cells #[] 26)).cell? ((⟨b, off, none⟩ : Addr).add j) = some u) := fun j u hu => by
        have e : (⟨b, off, none⟩ : Addr).add j = ⟨b, off + j, none⟩ := by unfold Addr.add; split <;> simp_all
        rw [e]
        exact (Gr.one w _).cell (hcs.news j u hu)
      have HLM : Hid (news.length = l.length * 5) := hcs.len
      have HON := hide hcs.one
      have HRN := hide hcs
      clear hcc hc hcs
      have HE : Hid (∀ n, n = l.length → (l = [] ∨ ∃ g off, cellsV w l g off news)) := fun _ _ => .inr ⟨b, off, unhide HRN⟩
      clear HRN
      generalize hnl : l.length = n at *
      have HE2 := hide (unhide HE n rfl)
      clear HE hnl
      have hm1 : 0 + n ≤ maxLen := by unfold maxLen; omega
      have hE := eqnil_some ⟨b, off, none⟩ n cap
      go_enter Try.func51, Try.ntmps51
      go_wp2_with (at_builtin; refine wpList_append_lies _ rfl _ _ 24 rfl w.heap.size 26 i0 _ 5 64 Try.underlying24 hi hz0 hz1 hz2 rfl (by omega) _ 0 [] rfl (own_nil5 w _ (Nat.le_refl _)) ⟨b, off, none⟩ n cap news rfl (unhide HLM) (unhide HNW) (unhide HON) h0 hm1 (by omega) (by simp) (w.heap.size + 1) (by simp) ?_; intro g9 cap9 w9 hown9 hgrow9 hat9 hlt9)
      go_ret
      rw [Nat.zero_add, List.nil_append] at hown9
      exact ⟨_, news, rfl, hown9, (Below.one w _).trans (below_own hgrow9 (by simp) (own_block (own_nil5 w _ (Nat.le_refl _)))), unhide HE2⟩
    · obtain rfl : l = [] := List.length_eq_zero_iff.1 (by omega)
      have hE := eqnil_some ad 0 cap
      clear hc
      go_enter Try.func51, Try.ntmps51
      go_wp2
      go_ret
      exact ⟨_, [], rfl, own_nil5 w _ (Nat.le_refl _), Below.one w _, .inl trivial⟩
end Go.Proofs.Ytcboggoindhmkaa
