/- The landed lines of layer 21, plainly: classes and all above them, none twice. -/
import Derived.Test.YtjjildpdelkejaaM14
import Derived.Test.YtjjildpdelkejaaM12
namespace Go.Proofs.Ytjjildpdelkejaa
open Go.RowKit

/-- A line goes on what is there, up to the first that is there. -/
def gl : List Cl → List Cl → List Cl
  | [], A => A
  | c :: R, A => if fcB A c.nam = true then A else gl R (A ++ [c])
def lnsC (cs : List Cl) (ns : List ByteArray) : List Cl := ns.foldl (fun A n => gl (linC cs n) A) []
theorem lin_up {l : List Ty} {cs : List Cl} (h : okC l cs = true) {n : ByteArray} {c : Cl} (hf : fndC cs n = some c) : linC cs n = c :: linC cs c.abv := by
  have hc := (fndC_in hf).1
  have hu := okC_up h hc
  unfold linC
  rw [hf]
  simp only
  rw [lnC]
  cases hg : fndC cs c.abv with
  | none => rfl
  | some b =>
    simp only
    have e : ¬ c.abv = te := fun q => by rw [q, fndC_empty h] at hg; cases hg
    rw [upC, if_neg e, hg] at hu
    rw [upC_line h cs.length (cs.length + 1) b hu (by omega)]
theorem lin_none {cs : List Cl} {n : ByteArray} (hf : fndC cs n = none) : linC cs n = [] := by unfold linC; rw [hf]
theorem gl_len : ∀ (R A : List Cl), (gl R A).length ≤ A.length + R.length
  | [], A => by simp [gl]
  | c :: R, A => by
    rw [gl]
    split
    · simp
    · have := gl_len R (A ++ [c])
      simp at this ⊢
      omega
theorem lns_next {cs : List Cl} {ns : List ByteArray} {k : Nat} (h : k < ns.length) : lnsC cs (ns.take (k + 1)) = gl (linC cs (ns.getD k te)) (lnsC cs (ns.take k)) := by
  unfold lnsC
  rw [List.take_succ_eq_append_getElem h, List.foldl_append]
  simp [List.getD, h]
theorem lns_len (cs : List Cl) : ∀ (ns : List ByteArray) (k : Nat), k ≤ ns.length → (lnsC cs (ns.take k)).length ≤ k * (cs.length + 2)
  | _, 0, _ => by simp [lnsC]
  | ns, k + 1, h => by
    rw [lns_next (show k < ns.length by omega)]
    have h1 := gl_len (linC cs (ns.getD k te)) (lnsC cs (ns.take k))
    have h2 := lns_len cs ns k (by omega)
    have h3 := linC_len cs (ns.getD k te)
    rw [Nat.succ_mul]
    omega
theorem fcB_iff {A : List Cl} {n : ByteArray} : fcB A n = true ↔ ∃ p ∈ A, p.nam = n := by
  unfold fcB fndC
  rw [List.find?_isSome]
  constructor
  · rintro ⟨p, hp, h⟩
    exact ⟨p, hp, of_decide_eq_true h⟩
  · rintro ⟨p, hp, h⟩
    exact ⟨p, hp, decide_eq_true h⟩
theorem same_nam {l : List Ty} {cs : List Cl} (h : okC l cs = true) {a b : Cl} (ha : a ∈ cs) (hb : b ∈ cs) (e : a.nam = b.nam) : a = b := by
  have h1 := fndC_of h ha
  have h2 := fndC_of h hb
  rw [e, h2] at h1
  exact (Option.some.inj h1).symm
/-- What is there has all above it, too. -/
def clos (cs A : List Cl) : Prop := ∀ c ∈ A, c ∈ cs ∧ ∀ x ∈ linC cs c.nam, x ∈ A
theorem gl_mem {l : List Ty} {cs : List Cl} (h : okC l cs = true) {A : List Cl} (hA : clos cs A) : ∀ (m : Nat) (n : ByteArray) (P : List Cl), (linC cs n).length ≤ m → (∀ p ∈ P, p ∈ cs ∧ (linC cs n).length < (linC cs p.nam).length) → ∀ x, x ∈ gl (linC cs n) (A ++ P) ↔ x ∈ A ∨ x ∈ P ∨ x ∈ linC cs n := by
  intro m
  induction m with
  | zero =>
    intro n P hm hP x
    rw [List.eq_nil_of_length_eq_zero (Nat.le_zero.1 hm)]
    simp [gl]
  | succ m ih =>
    intro n P hm hP x
    cases hf : fndC cs n with
    | none =>
      rw [lin_none hf]
      simp [gl]
    | some c =>
      obtain ⟨hc, hcn⟩ := fndC_in hf
      have hu := lin_up h hf
      rw [hu] at hm hP ⊢
      rw [gl]
      by_cases hq : fcB (A ++ P) c.nam = true
      · rw [if_pos hq]
        obtain ⟨p, hp, e⟩ := fcB_iff.1 hq
        rcases List.mem_append.1 hp with hp | hp
        · obtain ⟨hpc, hall⟩ := hA p hp
          obtain rfl := same_nam h hpc hc e
          have hin : ∀ y ∈ p :: linC cs p.abv, y ∈ A := by rw [← hu, ← hcn]; exact hall
          rw [List.mem_append]
          constructor
          · rintro (q | q)
            · exact .inl q
            · exact .inr (.inl q)
          · rintro (q | q | q)
            · exact .inl q
            · exact .inr q
            · exact .inl (hin x q)
        · obtain ⟨hpc, hlt⟩ := hP p hp
          rw [e, hcn, hu] at hlt
          exact absurd hlt (Nat.lt_irrefl _)
      · rw [if_neg hq, List.append_assoc, ih c.abv (P ++ [c]) (by simp at hm; omega) (fun p hp => ?_)]
        · rw [List.mem_append, List.mem_singleton, List.mem_cons]
          constructor
          · rintro (q | (q | q) | q)
            · exact .inl q
            · exact .inr (.inl q)
            · exact .inr (.inr (.inl q))
            · exact .inr (.inr (.inr q))
          · rintro (q | q | q | q)
            · exact .inl q
            · exact .inr (.inl (.inl q))
            · exact .inr (.inl (.inr q))
            · exact .inr (.inr q)
        · rcases List.mem_append.1 hp with hp | hp
          · have := hP p hp
            exact ⟨this.1, by have := this.2; simp at this; omega⟩
          · rw [List.mem_singleton] at hp
            subst hp
            exact ⟨hc, by rw [hcn, hu]; simp⟩
theorem clos_next {l : List Ty} {cs : List Cl} (h : okC l cs = true) {A : List Cl} (hA : clos cs A) (n : ByteArray) : clos cs (gl (linC cs n) A) ∧ ∀ x, x ∈ gl (linC cs n) A ↔ x ∈ A ∨ x ∈ linC cs n := by
  have hm : ∀ x, x ∈ gl (linC cs n) A ↔ x ∈ A ∨ x ∈ linC cs n := fun x => by
    have := gl_mem h hA _ n [] (Nat.le_refl _) (fun p hp => by cases hp) x
    rw [List.append_nil] at this
    rw [this]
    simp
  refine ⟨fun c hc => ?_, hm⟩
  rcases (hm c).1 hc with q | q
  · exact ⟨(hA c q).1, fun x hx => (hm x).2 (.inl ((hA c q).2 x hx))⟩
  · exact ⟨linC_in c q, fun x hx => (hm x).2 (.inr (linC_all h q x hx))⟩
theorem lns_clos {l : List Ty} {cs : List Cl} (h : okC l cs = true) (ns : List ByteArray) : ∀ k, k ≤ ns.length → clos cs (lnsC cs (ns.take k)) ∧ ∀ x, x ∈ lnsC cs (ns.take k) ↔ x ∈ allC cs (ns.take k)
  | 0, _ => ⟨fun c hc => by simp [lnsC] at hc, fun x => by simp [lnsC, allC]⟩
  | k + 1, hk => by
    obtain ⟨h1, h2⟩ := lns_clos h ns k (by omega)
    rw [lns_next (show k < ns.length by omega), allC_next (show k < ns.length by omega)]
    obtain ⟨h3, h4⟩ := clos_next h h1 (ns.getD k te)
    exact ⟨h3, fun x => by rw [h4, List.mem_append, h2]⟩
theorem mem_lns {l : List Ty} {cs : List Cl} (h : okC l cs = true) (ns : List ByteArray) (x : Cl) : x ∈ lnsC cs ns ↔ x ∈ allC cs ns := by
  have := (lns_clos h ns ns.length (Nat.le_refl _)).2 x
  rwa [List.take_length] at this
theorem lns_in {l : List Ty} {cs : List Cl} (h : okC l cs = true) (ns : List ByteArray) : ∀ x ∈ lnsC cs ns, x ∈ cs := fun x hx => by
  obtain ⟨n, _, hn⟩ := mem_allC.1 ((mem_lns h ns x).1 hx)
  exact linC_in x hn
/-- A line alone. -/
theorem gl_line {l : List Ty} {cs : List Cl} (h : okC l cs = true) : ∀ (m : Nat) (n : ByteArray) (P : List Cl), (linC cs n).length ≤ m → (∀ p ∈ P, p ∈ cs ∧ (linC cs n).length < (linC cs p.nam).length) → gl (linC cs n) P = P ++ linC cs n := by
  intro m
  induction m with
  | zero =>
    intro n P hm hP
    rw [List.eq_nil_of_length_eq_zero (Nat.le_zero.1 hm)]
    simp [gl]
  | succ m ih =>
    intro n P hm hP
    cases hf : fndC cs n with
    | none =>
      rw [lin_none hf]
      simp [gl]
    | some c =>
      obtain ⟨hc, hcn⟩ := fndC_in hf
      have hu := lin_up h hf
      rw [hu] at hm hP ⊢
      rw [gl, if_neg ?_, ih c.abv (P ++ [c]) (by simp at hm; omega) (fun p hp => ?_)]
      · simp
      · rcases List.mem_append.1 hp with hp | hp
        · have := hP p hp
          exact ⟨this.1, by have := this.2; simp at this; omega⟩
        · rw [List.mem_singleton] at hp
          subst hp
          exact ⟨hc, by rw [hcn, hu]; simp⟩
      · intro hq
        obtain ⟨p, hp, e⟩ := fcB_iff.1 hq
        obtain ⟨hpc, hlt⟩ := hP p hp
        rw [e, hcn, hu] at hlt
        exact absurd hlt (Nat.lt_irrefl _)
theorem lns_one {l : List Ty} {cs : List Cl} (h : okC l cs = true) (n : ByteArray) : lnsC cs [n] = linC cs n := by
  show gl (linC cs n) [] = _
  rw [gl_line h _ n [] (Nat.le_refl _) (fun p hp => by cases hp)]
  rfl
/-- What they must and may have: the document's. -/
theorem lns_mus {l : List Ty} {cs : List Cl} (h : okC l cs = true) (ns : List ByteArray) : srt ((lnsC cs ns).flatMap (·.mus)) = musL cs ns ∧ srt ((lnsC cs ns).flatMap (·.may)) = malL cs ns := by
  constructor
  · refine srt_ext fun x => ?_
    rw [List.mem_flatMap, List.mem_flatMap]
    exact ⟨fun ⟨c, hc, q⟩ => ⟨c, (mem_lns h ns c).1 hc, q⟩, fun ⟨c, hc, q⟩ => ⟨c, (mem_lns h ns c).2 hc, q⟩⟩
  · refine srt_ext fun x => ?_
    rw [List.mem_flatMap, List.mem_flatMap]
    exact ⟨fun ⟨c, hc, q⟩ => ⟨c, (mem_lns h ns c).1 hc, q⟩, fun ⟨c, hc, q⟩ => ⟨c, (mem_lns h ns c).2 hc, q⟩⟩
end Go.Proofs.Ytjjildpdelkejaa
