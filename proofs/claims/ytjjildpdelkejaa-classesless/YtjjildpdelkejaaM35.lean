/- P21.6, plainly. -/
import Derived.Test.YtjjildpdelkejaaM34
namespace Go.Proofs.Ytjjildpdelkejaa
open Go.RowKit

theorem fit_split {l : List Ty} {cs : List Cl} {ns hs : List ByteArray} (h : fitC l cs ns hs = 0) : nedE l cs ns = 0 ∧ (hs.all fun x => (findT l x).isSome) = true ∧ ((nedM l cs ns).all fun m => mtA l hs m) = true ∧ (hs.all fun x => frA l (nedM l cs ns) (nedY l cs ns) x) = true := by
  unfold fitC at h
  split at h
  · rename_i h0
    split at h
    · rename_i h1
      split at h
      · rename_i h2
        rw [Bool.and_eq_true] at h2
        exact ⟨h0, h1, h2⟩
      · cases h
    · cases h
  · rename_i h0
    exact absurd h h0
theorem all_sub {α : Type} {f : α → Bool} {L M : List α} (h : L.all f = true) (hs : ∀ x ∈ M, x ∈ L) : M.all f = true := by
  rw [List.all_eq_true] at h ⊢
  exact fun x hx => h x (hs x hx)
theorem mtA_sub {l : List Ty} {hs ks : List ByteArray} {m : ByteArray} (h : mtA l hs m = true) (hk : ∀ x ∈ hs, x ∈ ks) : mtA l ks m = true := by
  unfold mtA at h ⊢
  rw [List.any_eq_true] at h ⊢
  obtain ⟨x, hx, q⟩ := h
  exact ⟨x, hk x hx, q⟩
/-- What fits still fits in another order. -/
theorem fit_order {l : List Ty} {cs : List Cl} {ns hs ms ks : List ByteArray} (h : fitC l cs ns hs = 0) (hn : ∀ x, x ∈ ns ↔ x ∈ ms) (hk : ∀ x, x ∈ hs ↔ x ∈ ks) : fitC l cs ms ks = 0 := by
  obtain ⟨h0, h1, h2, h3⟩ := fit_split h
  obtain ⟨p1, p2, p3⟩ := ned_set h0 hn
  unfold fitC
  rw [if_pos p1, all_sub h1 (fun x hx => (hk x).2 hx), p2, p3, all_sub h3 (fun x hx => (hk x).2 hx)]
  have : ((nedM l cs ns).all fun m => mtA l ks m) = true := by
    rw [List.all_eq_true] at h2 ⊢
    exact fun m hm => mtA_sub (h2 m hm) (fun x hx => (hk x).1 hx)
  rw [this]
  rfl
/-- Without some it fits just where all that must be is still met. -/
theorem fit_less {l : List Ty} {cs : List Cl} {ns hs ks : List ByteArray} (h : fitC l cs ns hs = 0) (hk : ∀ x ∈ ks, x ∈ hs) : (fitC l cs ns ks == 0) = (nedM l cs ns).all fun m => mtA l ks m := by
  obtain ⟨h0, h1, _, h3⟩ := fit_split h
  unfold fitC
  rw [if_pos h0, all_sub h1 hk, all_sub h3 hk, Bool.and_true]
  cases (nedM l cs ns).all fun m => mtA l ks m <;> rfl
/-- Is one of the first k of what must be not met? -/
def ndk (l : List Ty) (M ks : List ByteArray) (k : Nat) : Bool := (M.take k).any fun m => !mtA l ks m
theorem ndk_next {l : List Ty} {M ks : List ByteArray} {k : Nat} (h : k < M.length) : ndk l M ks (k + 1) = (ndk l M ks k || !mtA l ks (M.getD k te)) := by
  unfold ndk
  rw [List.take_succ_eq_append_getElem h, List.any_append]
  simp [List.getD, h]
theorem ndk_all (l : List Ty) (M ks : List ByteArray) : ndk l M ks M.length = !(M.all fun m => mtA l ks m) := by
  unfold ndk
  rw [List.take_length, List.not_all_eq_any_not]
theorem ts_take {w : World} {b off c : Nat} {L : List ByteArray} (h : TsV w (.slice (some ⟨b, off, none⟩) L.length c) L) {k : Nat} (hk : k ≤ L.length) {c' : Nat} (hc : k ≤ c') : TsV w (.slice (some ⟨b, off, none⟩) k c') (L.take k) := by
  obtain ⟨a, cap, e, hn, hcc⟩ := h
  cases e
  have hl : (L.take k).length = k := by rw [List.length_take]; omega
  refine ⟨_, c', by rw [hl], ⟨by omega, by omega⟩, fun h0 => ?_⟩
  obtain ⟨b', off', e, hce⟩ := hcc (by omega)
  cases e
  refine ⟨b, off, rfl, fun j hj => ?_⟩
  rw [hce j (by omega)]
  have hjk : j < k := by omega
  simp [List.getD, hjk]
theorem ts_drop {w : World} {b off c : Nat} {L : List ByteArray} (h : TsV w (.slice (some ⟨b, off, none⟩) L.length c) L) {k : Nat} (hk : k ≤ L.length) {c' : Nat} (hc : L.length - k ≤ c') : TsV w (.slice (some ⟨b, off + k, none⟩) (L.length - k) c') (L.drop k) := by
  obtain ⟨a, cap, e, hn, hcc⟩ := h
  cases e
  have hl : (L.drop k).length = L.length - k := List.length_drop ..
  refine ⟨_, c', by rw [hl], ⟨by omega, by omega⟩, fun h0 => ?_⟩
  obtain ⟨b', off', e, hce⟩ := hcc (by omega)
  cases e
  refine ⟨b, off + k, rfl, fun j hj => ?_⟩
  rw [Nat.add_assoc, hce (k + j) (by omega)]
  simp [List.getD]
theorem ts_none {w : World} {a : Option Addr} {c : Nat} {L : List ByteArray} (h : L.length = 0) : TsV w (.slice a 0 c) L := ⟨a, c, by rw [h], ⟨by omega, by omega⟩, fun h0 => absurd h0 (by omega)⟩
end Go.Proofs.Ytjjildpdelkejaa
