/- slices.Compact of runes that rise: each of them once. -/
import Derived.Test.YtnlkefdicpeemaaIns
import Derived.Lib.SliceRun
import Derived.Laws.IdiomCopy
namespace Go.Proofs.Ytnlkefdicpeemaa
open Go.RowKit
open Go.Sort (Holds ltInt swp PermIn SortedIn)

/-- The first k of e are the first m of d, each once; from m - 1 on e is d. -/
structure Cmp (d e : Array Int) (k m : Nat) : Prop where
  sz : e.size = d.size
  pos : 0 < k
  le : k ≤ m
  inc : ∀ i j, i < j → j < k → e[i]! < e[j]!
  sub : ∀ i, i < k → ∃ j, j < m ∧ e[i]! = d[j]!
  sup : ∀ j, j < m → ∃ i, i < k ∧ e[i]! = d[j]!
  last : e[k - 1]! = d[m - 1]!
  rest : ∀ i, m - 1 ≤ i → e[i]! = d[i]!

theorem Cmp.start (d : Array Int) : Cmp d d 1 1 :=
  ⟨rfl, by omega, by omega, fun i j h1 h2 => by omega, fun i hi => ⟨i, hi, rfl⟩, fun i hi => ⟨i, hi, rfl⟩, rfl, fun _ _ => rfl⟩
theorem Cmp.skip {d e : Array Int} {k m : Nat} (h : Cmp d e k m) (he : d[m]! = d[m - 1]!) : Cmp d e k (m + 1) :=
  ⟨h.sz, h.pos, by have := h.le; omega, h.inc, fun i hi => let ⟨j, h1, h2⟩ := h.sub i hi; ⟨j, by omega, h2⟩, fun j hj => by
    rcases Nat.lt_succ_iff_lt_or_eq.1 hj with h1 | rfl
    · exact h.sup j h1
    · exact ⟨k - 1, by have := h.pos; omega, by rw [h.last, he]⟩, by rw [h.last]; simp [he], fun i hi => h.rest i (by omega)⟩
theorem Cmp.keep {d e : Array Int} {k m : Nat} (h : Cmp d e k m) (hkm : k < m) (hm : m < d.size) (hlt : d[m - 1]! < d[m]!) : Cmp d (e.setIfInBounds k d[m]!) (k + 1) (m + 1) := by
  have hk : k < e.size := by rw [h.sz]; omega
  have same : (e.setIfInBounds k d[m]!)[k]! = d[m]! := Go.Sort.getElem!_set_same e k _ hk
  have other : ∀ i, i ≠ k → (e.setIfInBounds k d[m]!)[i]! = e[i]! := fun i hi => Go.Sort.getElem!_set_other e k i _ hi
  have hmono : ∀ i, i < k → e[i]! < d[m]! := fun i hi => by
    rcases Nat.lt_or_ge i (k - 1) with h1 | h1
    · have := h.inc i (k - 1) h1 (by omega); rw [h.last] at this; omega
    · rw [show i = k - 1 by omega, h.last]; exact hlt
  refine ⟨by simp [h.sz], by omega, by omega, fun i j h1 h2 => ?_, fun i hi => ?_, fun j hj => ?_, ?_, fun i hi => ?_⟩
  · rw [other i (by omega)]
    by_cases hj : j = k
    · subst hj; rw [same]; exact hmono i h1
    · rw [other j hj]; exact h.inc i j h1 (by omega)
  · by_cases hik : i = k
    · subst hik; exact ⟨m, by omega, same⟩
    · obtain ⟨j, h1, h2⟩ := h.sub i (by omega)
      exact ⟨j, by omega, by rw [other i hik, h2]⟩
  · rcases Nat.lt_succ_iff_lt_or_eq.1 hj with h1 | rfl
    · obtain ⟨i, h2, h3⟩ := h.sup j h1
      exact ⟨i, by omega, by rw [other i (by omega), h3]⟩
    · exact ⟨k, by omega, same⟩
  · simp [same]
  · rw [other i (by omega)]; exact h.rest i (by omega)
/-- While none came twice. -/
theorem Cmp.go {d : Array Int} {k : Nat} (h : Cmp d d k k) (hlt : d[k - 1]! < d[k]!) : Cmp d d (k + 1) (k + 1) := by
  refine ⟨rfl, by omega, by omega, fun i j h1 h2 => ?_, fun i hi => ⟨i, hi, rfl⟩, fun i hi => ⟨i, hi, rfl⟩, rfl, fun _ _ => rfl⟩
  by_cases hj : j = k
  · subst hj
    rcases Nat.lt_or_ge i (j - 1) with h3 | h3
    · have := h.inc i (j - 1) h3 (by omega); omega
    · rw [show i = j - 1 by omega]; exact hlt
  · exact h.inc i j h1 (by omega)

/-- Runes that rise, each once, and the same as in d. -/
def Once (d : Array Int) (zs : List Int) : Prop := (zs.Pairwise (· < ·) ∧ zs.length ≤ d.size) ∧ ∀ x, x ∈ zs ↔ x ∈ d.toList
theorem mem_get! (d : Array Int) (x : Int) : x ∈ d.toList ↔ ∃ j, j < d.size ∧ d[j]! = x := by
  constructor
  · intro h
    obtain ⟨j, hj, he⟩ := List.getElem_of_mem h
    have hj' : j < d.size := by simpa using hj
    exact ⟨j, hj', by rw [getElem!_pos d j hj']; simpa using he⟩
  · rintro ⟨j, hj, rfl⟩
    rw [getElem!_pos d j hj]
    exact Array.getElem_mem_toList hj
theorem Cmp.once {d e : Array Int} {k : Nat} (h : Cmp d e k d.size) : Once d (e.toList.take k) ∧ (e.toList.take k).length = k := by
  have hk : k ≤ e.size := by rw [h.sz]; exact h.le
  have hlen : (e.toList.take k).length = k := by simp; omega
  have hget : ∀ i (hi : i < (e.toList.take k).length), (e.toList.take k)[i] = e[i]! := fun i hi => by
    rw [List.getElem_take, getElem!_pos e i (by omega)]; simp
  refine ⟨⟨⟨?_, by rw [hlen, ← h.sz]; exact hk⟩, fun x => ?_⟩, hlen⟩
  · rw [List.pairwise_iff_getElem]
    intro i j hi hj hij
    rw [hget i hi, hget j hj]
    exact h.inc i j hij (by omega)
  · rw [mem_get! d]
    constructor
    · intro hx
      obtain ⟨i, hi, rfl⟩ := List.getElem_of_mem hx
      obtain ⟨j, h1, h2⟩ := h.sub i (by omega)
      exact ⟨j, h1, by rw [hget i hi, h2]⟩
    · rintro ⟨j, hj, rfl⟩
      obtain ⟨i, h1, h2⟩ := h.sup j hj
      rw [← h2, ← hget i (by omega)]
      exact List.getElem_mem _

theorem Rw.set {w0 w : World} {blk off : Nat} {d : Array Int} (h : Rw w0 blk off d w) {i : Nat} (hi : i < d.size) (x : Int) : Rw w0 blk off (d.setIfInBounds i x) (w.setCell ⟨blk, off + i, none⟩ (.int .i32 x)) := by
  refine ⟨fun k hk => ?_, h.below.setCell (p := ⟨blk, off + i, none⟩) (Nat.le_refl _) _, by simpa using h.lt⟩
  have hk' : k < d.size := by simpa using hk
  obtain ⟨h1, h2⟩ := h.holds k hk'
  refine ⟨?_, by rw [World.frozen?_setCell]; exact h2⟩
  by_cases hki : k = i
  · subst hki
    rw [Go.Sort.getElem!_set_same d k x hk']
    exact World.cell?_setCell_same' _ _ _ (by rw [h1]; rfl)
  · rw [World.cell?_setCell_other _ _ _ _ (by intro he; apply hki; simp at he), Go.Sort.getElem!_set_other d i k x hki]
    exact h1

theorem below_cells {B : Nat} {a : World} (b : Nat) (hb : B ≤ b) : ∀ (vs : List Value) (o : Nat) {w : World}, Below B a w → Below B a (w.setCells b o vs)
  | [], _, _, h => h
  | v :: r, o, _, h => below_cells b hb r (o + 1) (h.setCell (p := ⟨b, o, none⟩) hb v)
/-- The first k stay as all behind them is struck. -/
theorem Rw.take {w0 w : World} {blk off : Nat} {d : Array Int} (h : Rw w0 blk off d w) {k : Nat} (hk : k ≤ d.size) (vs : List Value) : Rw w0 blk off (d.toList.take k).toArray (w.setCells blk (off + k) vs) := by
  refine ⟨fun j hj => ?_, below_cells blk (Nat.le_refl _) vs _ h.below, ?_⟩
  · have hj' : j < k := by simp at hj; omega
    obtain ⟨h1, h2⟩ := h.holds j (by omega)
    refine ⟨?_, by rw [World.frozen?_setCells]; exact h2⟩
    rw [World.cell?_setCells_out blk vs _ _ _ (fun _ _ => by simp; omega), h1]
    congr 2
    rw [getElem!_pos d j (by omega), getElem!_pos (d.toList.take k).toArray j hj]
    simp
  · exact Nat.lt_of_lt_of_le h.lt (below_cells blk (Nat.zero_le _) vs (off + k) (Below.refl 0 w)).size

set_option maxHeartbeats 800000 in
theorem compact_small (blk off cap : Nat) (d : Array Int) (w0 w : World) (hR : Rw w0 blk off d w) (h2 : d.size < 2) :
    Calls Try.prog 33 #[.slice (some ⟨blk, off, none⟩) d.size cap] w fun e w' => ∃ zs : List Int, e = .returned (.slice (some ⟨blk, off, none⟩) zs.length cap) ∧ Rw w0 blk off zs.toArray w' ∧ Once d zs := by
  have RR := hide hR
  have hz : (d.size : Int) < 2 := by omega
  have HO : Hid (Once d d.toList) := by
    refine ⟨⟨?_, by simp⟩, fun x => Iff.rfl⟩
    rw [List.pairwise_iff_getElem]
    intro i j hi hj hij
    simp at hi hj
    omega
  have hlen := hide (show d.toList.length = d.size by simp)
  clear hR h2
  generalize d.size = sz at *
  go_enter Try.func33, Try.ntmps33
  go_wp2
  go_ret
  exact ⟨d.toList, by rw [unhide hlen]; rfl, unhide RR, unhide HO⟩

theorem elem_info : (Try.prog.info? 21).map (fun i => (i.zero, i.size, i.bytes)) = some (some (.int .i32 0), 1, 4) := by kernel_rfl

set_option maxHeartbeats 1600000 in
theorem compact_more (blk off cap : Nat) (d : Array Int) (w0 w : World) (hR : Rw w0 blk off d w) (h2 : 2 ≤ d.size) (hsz : d.size ≤ 60000) (hcap : d.size ≤ cap) (hs : ∀ i j, i < j → j < d.size → d[i]! ≤ d[j]!) :
    Calls Try.prog 33 #[.slice (some ⟨blk, off, none⟩) d.size cap] w fun e w' => ∃ zs : List Int, e = .returned (.slice (some ⟨blk, off, none⟩) zs.length cap) ∧ Rw w0 blk off zs.toArray w' ∧ Once d zs := by
  have RR := hide hR
  have HS := hide hs
  have hz : ¬ (d.size : Int) < 2 := by omega
  have hcz : (d.size : Int) ≤ (cap : Int) := by omega
  have HC0 := hide (Cmp.start d)
  clear hR hs
  generalize hsn : d.size = sz at *
  have SN := hide hsn
  clear hsn
  go_enter Try.func33, Try.ntmps33
  go_wp2
  go_loopw [3] (fun x wr => ∃ k : Nat, x = .int .i64 k ∧ 1 ≤ k ∧ k ≤ sz ∧ Hid (Rw w0 blk off d wr) ∧ Hid (Cmp d d k k)) (fun x _ => (sz - (intOf x).toNat))
  case atStart => exact ⟨1, rfl, by omega, by omega, RR, HC0⟩
  case round =>
    obtain ⟨k, rfl, hk1, hk, RK, CK⟩ := hrel
    by_cases hlt : k < sz
    · have hltz : (k : Int) < (sz : Int) := by omega
      have hk0 : (0 : Int) ≤ (k : Int) := by omega
      have hj2 : (0 : Int) ≤ (k : Int) - 1 := by omega
      have hj3 : (k : Int) - 1 < (sz : Int) := by omega
      have hw : IntKind.i64.wrap ((k : Int) - 1) = (k : Int) - 1 := by rw [IntKind.wrap_i64]; omega
      have ht : ((k : Int) - 1).toNat = k - 1 := by omega
      have c1 := (unhide RK).cell (i := k) (by rw [unhide SN]; omega)
      have c2 := (unhide RK).cell (i := k - 1) (by rw [unhide SN]; omega)
      have hle := unhide HS (k - 1) k (by omega) hlt
      have hgo : d[k - 1]! < d[k]! → Hid (Cmp d d (k + 1) (k + 1)) := fun h => (unhide CK).go h
      have hsk : d[k]! = d[k - 1]! → Hid (Cmp d d k (k + 1)) := fun h => (unhide CK).skip h
      generalize d[k]! = x at *
      generalize d[k - 1]! = y at *
      obtain ⟨k1, hk1e⟩ : ∃ k1, k1 = k - 1 := ⟨_, rfl⟩
      rw [← hk1e] at c2 ht
      have HK1 := hide hk1e
      clear hk1e
      by_cases hxy : x = y
      · have CS := hsk hxy
        clear hsk hgo hle
        subst hxy
        go_wp2
        go_quiet (fail)
        go_wp2
        have RQ := hide ((unhide RK).drewN nq)
        clear c1 c2
        generalize wr.drewN nq = wq at *
        go_loopw [3, 5] (fun u v ws => ∃ (kk k2 : Nat) (e : Array Int), u = .int .i64 kk ∧ v = .int .i64 k2 ∧ 1 ≤ k2 ∧ k + k2 ≤ sz ∧ kk < k + k2 ∧ Hid (Rw w0 blk off e ws) ∧ Hid (Cmp d e kk (k + k2))) (fun _ v _ => (sz - (intOf v).toNat))
        case atStart => exact ⟨k, 1, d, rfl, rfl, by omega, by omega, by omega, RQ, CS⟩
        case round =>
          obtain ⟨kk, k2, e, rfl, rfl, hk2, hks, hkk, RE, CE⟩ := hrel
          have se := hide ((unhide CE).sz.trans (unhide SN))
          by_cases hl2 : k + k2 < sz
          · have z1 : (k2 : Int) < ((sz - k : Nat) : Int) := by omega
            have z2 : (k2 : Int) < (sz : Int) - (k : Int) := by omega
            have z3 : (0 : Int) ≤ (k2 : Int) := by omega
            have z4 : (0 : Int) ≤ (k2 : Int) - 1 := by omega
            have z5 : (k2 : Int) - 1 < ((sz - k : Nat) : Int) := by omega
            have z6 : IntKind.i64.wrap ((k2 : Int) - 1) = (k2 : Int) - 1 := by rw [IntKind.wrap_i64]; omega
            have z7 : ((k2 : Int) - 1).toNat = k2 - 1 := by omega
            have z8 : (0 : Int) ≤ (kk : Int) := by omega
            have z9 : (kk : Int) < (sz : Int) := by omega
            have c1 := (unhide RE).cell (i := k + k2) (by rw [unhide se]; omega)
            have c2 := (unhide RE).cell (i := k + (k2 - 1)) (by rw [unhide se]; omega)
            have c3 := (unhide RE).cell (i := kk) (by rw [unhide se]; omega)
            have f3 := (unhide RE).fro (i := kk) (by rw [unhide se]; omega)
            rw [← Nat.add_assoc] at c1 c2
            rw [(unhide CE).rest (k + k2) (by omega)] at c1
            rw [(unhide CE).rest (k + (k2 - 1)) (by omega)] at c2
            have hle := unhide HS (k + (k2 - 1)) (k + k2) (by omega) hl2
            have hgo : d[k + (k2 - 1)]! < d[k + k2]! → Hid (Cmp d (e.setIfInBounds kk d[k + k2]!) (kk + 1) (k + (k2 + 1))) := fun h => (unhide CE).keep hkk (by rw [unhide SN]; exact hl2) (by rw [show k + k2 - 1 = k + (k2 - 1) by omega]; exact h)
            have hsk : d[k + k2]! = d[k + (k2 - 1)]! → Hid (Cmp d e kk (k + (k2 + 1))) := fun h => (unhide CE).skip (by rw [show k + k2 - 1 = k + (k2 - 1) by omega]; exact h)
            generalize d[k + k2]! = p at *
            generalize d[k + (k2 - 1)]! = q at *
            generalize e[kk]! = old at *
            obtain ⟨k3, hk3e⟩ : ∃ k3, k3 = k2 - 1 := ⟨_, rfl⟩
            rw [← hk3e] at c2 z7
            have HK3 := hide hk3e
            clear hk3e
            by_cases hpq : p = q
            · have CS2 := hsk hpq
              clear hsk hgo hle
              subst hpq
              go_wp2
              go_quiet (fail)
              go_wp2
              go_roundw
              case rel => exact ⟨kk, k2 + 1, e, rfl, by go_num, by omega, by omega, by omega, (unhide RE).drewN _, CS2⟩
              case measure => simp [intOf]; omega
            · have CS2 := hgo (by omega)
              have hd : (p == q) = false := by simpa using hpq
              clear hsk hgo hle
              go_wp2
              go_quiet (fail)
              go_wp2
              go_roundw
              case rel => exact ⟨kk + 1, k2 + 1, e.setIfInBounds kk p, by go_num, by go_num, by omega, by omega, by omega, ((unhide RE).drewN _).set (by rw [unhide se]; omega) p, CS2⟩
              case measure => simp [intOf]; omega
          · have z1 : ¬ (k2 : Int) < ((sz - k : Nat) : Int) := by omega
            have z2 : ¬ (k2 : Int) < (sz : Int) - (k : Int) := by omega
            have z8 : (0 : Int) ≤ (kk : Int) := by omega
            have z9 : (kk : Int) ≤ (sz : Int) := by omega
            have z10 : (kk : Int) ≤ (cap : Int) := by omega
            have CE2 : Cmp d e kk d.size := by rw [unhide SN, show sz = k + k2 by omega]; exact unhide CE
            have hcl : ∀ ty, (Builtin.clear_ #[44] ty #[.slice (some ⟨blk, off + kk, none⟩) (sz - kk) (cap - kk)]).run Try.prog wr = .ok (.tuple #[]) (wr.setCells blk (off + kk) (List.replicate (sz - kk) (.int .i32 0))) :=
              fun ty => Go.Lib.run_clear_slice wr _ _ ty _ Try.underlying44 Try.zeroValue21 rfl rfl blk (off + kk) (sz - kk) (cap - kk) (by omega) (fun j hj => by rw [show off + kk + j = off + (kk + j) by omega, (unhide RE).cell (i := kk + j) (by rw [unhide se]; omega)]; rfl) (fun j hj => by rw [show off + kk + j = off + (kk + j) by omega]; exact (unhide RE).fro (i := kk + j) (by rw [unhide se]; omega))
            have HO := hide CE2.once
            have HR2 := hide ((unhide RE).take (k := kk) (by rw [unhide se]; omega) (List.replicate (sz - kk) (.int .i32 0)))
            clear CE2
            go_wp2
            go_ret
            exact ⟨e.toList.take kk, by rw [(unhide HO).2]; rfl, unhide HR2, (unhide HO).1⟩
      · have CG := hgo (by omega)
        have hd : (x == y) = false := by simpa using hxy
        clear hsk hgo hle
        go_wp2
        go_quiet (fail)
        go_wp2
        go_roundw
        case rel => exact ⟨k + 1, by go_num, by omega, by omega, (unhide RK).drewN _, CG⟩
        case measure => simp [intOf]; omega
    · have hltz : ¬ (k : Int) < (sz : Int) := by omega
      have HO := hide ((show Cmp d d k d.size by rw [unhide SN, show sz = k by omega]; exact unhide CK).once)
      have HE : Hid (d.toList.take k = d.toList) := by
        show _ = _
        rw [List.take_of_length_le]; simp; rw [unhide SN]; omega
      go_wp2
      go_ret
      refine ⟨d.toList, ?_, unhide RK, ?_⟩
      · rw [show d.toList.length = sz by simp; exact unhide SN]; rfl
      · have := (unhide HO).1; rwa [unhide HE] at this
end Go.Proofs.Ytnlkefdicpeemaa
