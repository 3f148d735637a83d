/- pieces.piece, folded; the closure of Prepare. -/
import Derived.Test.YtddliikhjilngaaGreatDoorM20
import Derived.Test.YtddliikhjilngaaGreatDoorM15
namespace Go.Proofs.YtddliikhjilngaaGreatDoor
set_option maxRecDepth 100000
open Go.RowKit

/-- A piece that is told here, folded: its text. -/
structure Pz (k : Int) (s S : ByteArray) : Prop where
  size : s.size ≤ 1202
  ru : ruOk s = true
  nf : nfOk (mapL true (ruP s)) = true
  len : (nnL 2 (ruP s)).length ≤ 5000
  chk : chkE (nnL 2 (ruP s)) = 0
  fl : (pieL mk11 k (nnL 2 (ruP s))).length ≤ 80000
  out : encS (pieL mk11 k (nnL 2 (ruP s))) = S
  err : encE (pieL mk11 k (nnL 2 (ruP s))) = 0
set_option maxHeartbeats 1000000 in
theorem piece_any (k : Int) (s S : ByteArray) (w : World) (hL : L12 w) (hz : Pz k s S) :
    Calls Tryz.prog 22 #[.int .i64 2, .int .i64 k, .string s] w fun e w' => e = .returned (.tuple #[.string S, .int .i64 0]) ∧ Below w.heap.size w w' := by
  obtain ⟨hs, hru, hnf, hln, hc, hfl, hout, herr⟩ := hz
  have hpl := rup_len s
  have HU := runes_any s w (by omega)
  have hE : ruE s = 0 := by unfold ruE; rw [hru]; rfl
  rw [hE] at HU
  have HUR : Hid (Calls Tryz.prog 34 #[.string s] w fun e w' => ∃ v, e = .returned (.tuple #[v, .int .i64 (ruA s), .int .i64 0]) ∧ Row w' v (ruP s) ∧ Below w.heap.size w w') :=
    HU.mono fun e w' ⟨v, he, ho, hb⟩ => ⟨v, he, Rn.row (B := w.heap.size) ho, hb⟩
  have hin := ru_in hru
  have HM : Hid (∀ v W, L12 W → Row W v (ruP s) → Calls Tryz.prog 29 #[.bool true, v] W fun e w' => ∃ v, e = .returned v ∧ Row w' v (mapL true (ruP s)) ∧ Below W.heap.size W w') :=
    fun v W hW hv => fmap_any true v (ruP s) W hW.st (by omega) hin hv
  have HN := hide (fun v W hW hv => nf_any v (mapL true (ruP s)) W hW hnf hv)
  have e1 : nfL (mapL true (ruP s)) = nnL 2 (ruP s) := rfl
  rw [e1] at HN
  have HG := hide (fun v W hv => gcheck_any v (nnL 2 (ruP s)) W (by omega) hv)
  rw [hc] at HG
  have HP := hide (fun v W hv hf => bpie_any k v (nnL 2 (ruP s)) W trivial hln hv hf)
  have HE := hide (fun v W hv => encode_any v (pieL mk11 k (nnL 2 (ruP s))) W hfl hv)
  rw [hout, herr] at HE
  have HL := hide hL
  have hsz : ¬ (s.size : Int) > 1202 := by omega
  clear HU hE hru hL hnf hln hc hfl hout herr hin e1 hpl
  generalize ruA s = A at *
  generalize (chkN (nnL 2 (ruP s)) : Int) = cn at *
  generalize pieL mk11 k (nnL 2 (ruP s)) = r3 at *
  generalize nnL 2 (ruP s) = r2 at *
  generalize mapL true (ruP s) = r1 at *
  generalize ruP s = l at *
  go_enter Tryz.func22, Tryz.ntmps22
  go_wp2_with (first
    | (go_at_call 35; refine (unhide HE _ _ (unhide R5)).mono ?_; rintro e w6 ⟨rfl, b6⟩; have t6 := t5.trans (b6.mono t5.size))
    | (go_at_call 36; refine (unhide HP _ _ (unhide R4) (unhide F3)).mono ?_; rintro e w5 ⟨v5, rfl, q5, b5⟩; have R5 := hide q5; clear q5; have t5 := t4.trans (b5.mono t4.size))
    | (go_at_call 32; refine (unhide HG _ _ (unhide R3)).mono ?_; rintro e w4 ⟨rfl, b4⟩; have R4 := hide ((unhide R3).below b4); have t4 := t3.trans (b4.mono t3.size))
    | (go_at_call 31; refine (unhide HN _ _ (unhide HL2) (unhide R2)).mono ?_; rintro e w3 ⟨v3, rfl, q3, b3⟩; have R3 := hide q3.row; have F3 := hide q3.fits; clear q3; have t3 := t2.trans (b3.mono t2.size))
    | (go_at_call 29; refine (unhide HM _ _ (unhide HL1) (unhide R1)).mono ?_; rintro e w2 ⟨v2, rfl, q2, b2⟩; have R2 := hide q2; clear q2; have t2 := t1.trans (b2.mono t1.size); have HL2 := hide ((unhide HL).keep t2))
    | (go_at_call 34; refine (unhide HUR).mono ?_; rintro e w1 ⟨v1, rfl, q1, t1⟩; have R1 := hide q1; clear q1; have HL1 := hide ((unhide HL).keep t1)))
  go_ret2
  exact ⟨rfl, t6⟩

/-- What is laid where it lies already. -/
theorem setCell_again {w : World} {a : Addr} {v : Value} (h : w.cell? a = some v) : w.setCell a v = w := by
  have hs : a.spot.isSome = false := by
    cases hb : a.spot.isSome
    · rfl
    · unfold World.cell? at h
      split at h
      · rw [hb] at h; simp at h
      · cases h
  have hh : (w.setCell a v).heap = w.heap := by
    unfold World.setCell
    dsimp only
    apply Array.ext_getElem?
    intro i
    rw [Array.getElem?_modify]
    split
    · rename_i hi
      subst hi
      unfold World.cell? at h
      cases ho : w.heap[a.block]? with
      | none => rfl
      | some o =>
        rw [ho] at h
        cases o with
        | cells c t f =>
          rw [hs] at h
          have h' : c[a.off]? = some v := by simpa using h
          have hc : c.setIfInBounds a.off v = c := by
            apply Array.ext_getElem?
            intro j
            rw [Array.getElem?_setIfInBounds]
            split
            · rename_i hj
              subst hj
              rw [h']
              have := (Array.getElem?_eq_some_iff.1 h').1
              simp [this]
            · rfl
          simp [hs, hc]
        | _ => cases h
    · rfl
  have e : w.setCell a v = { w with heap := (w.setCell a v).heap } := rfl
  rw [e, hh]
set_option maxHeartbeats 1000000 in
/-- The closure of Prepare, where nothing has gone wrong yet, and nothing goes wrong. -/
theorem clo13_any (gf gw : Nat) (k : Int) (s S : ByteArray) (w : World) (hL : L12 w) (hz : Pz k s S) (hf : w.cell? ⟨gf, 0, none⟩ = some (.int .i64 0)) (hff : w.frozen? ⟨gf, 0, none⟩ = false) (hw : w.cell? ⟨gw, 0, none⟩ = some (.int .i64 2)) :
    Calls Tryz.prog 21 (#[.int .i64 k, .string s] ++ #[.pointer (some ⟨gf, 0, none⟩), .pointer (some ⟨gw, 0, none⟩)]) w fun e w' => e = .returned (.string S) ∧ Below w.heap.size w w' := by
  have HP := hide (piece_any k s S w hL hz)
  have hlt := cell_lt hf
  clear hL hz
  go_enter Tryz.func21, Tryz.ntmps21
  go_wp2_with (go_at_call 22; refine (unhide HP).mono ?_; rintro e w1 ⟨rfl, b1⟩; have hf1 : w1.cell? ⟨gf, 0, none⟩ = some (.int .i64 0) := (b1.cell (by exact hlt)).trans hf; have hff1 : w1.frozen? ⟨gf, 0, none⟩ = false := (b1.frozen (p := ⟨gf, 0, none⟩) (by exact hlt)).trans hff)
  rw [setCell_again hf1]
  go_ret
  exact ⟨rfl, b1⟩
end Go.Proofs.YtddliikhjilngaaGreatDoor
