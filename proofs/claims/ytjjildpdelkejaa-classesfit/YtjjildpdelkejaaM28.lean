/- The law's schema; Few of layer 21. -/
import Derived.Test.YtjjildpdelkejaaM27
namespace Go.Proofs.Ytjjildpdelkejaa
open Go.RowKit

def tcls : ByteArray := ⟨#[99, 108, 115]⟩
def tpho : ByteArray := ⟨#[112, 104, 111, 110, 101]⟩
def tper : ByteArray := ⟨#[112, 101, 114, 115, 111, 110]⟩
def ttop : ByteArray := ⟨#[116, 111, 112]⟩
def scL : List Ty := [⟨tcls, te, 9, 9, false, false⟩, ⟨tcn, tnm, 1, 2, false, false⟩, ⟨tnm, te, 1, 2, false, false⟩, ⟨tpho, te, 8, 8, false, false⟩]
def scC : List Cl := [⟨tper, ttop, false, [tnm], [tpho]⟩, ⟨ttop, te, true, [tcls], []⟩]
set_option maxHeartbeats 3200000 in
theorem schema_any (w : World) : Calls Try.prog 24 #[] w fun e w' => ∃ va vc, e = .returned (.agg #[va, vc]) ∧ TysV w' va scL ∧ ClsV w' vc scC ∧ Below w.heap.size w w' := by
  have mx : Try.prog.follows .mixedOrders = true := by kernel_rfl
  go_enter Try.func24, Try.ntmps24
  go_wp2
  have hs : ∀ (W : World) (o : Obj), (W.alloc o).heap.size = W.heap.size + 1 := fun W o => by simp
  have HT := hide (tys_of (W := w.alloc (.cells #[.slice (some ⟨w.heap.size + 1, 0, none⟩) 4 4, .slice (some ⟨w.heap.size + 1 + 1 + 1 + 1 + 1, 0, none⟩) 2 2] 25)) (l := scL) (cs := #[.string ⟨#[99, 108, 115]⟩, .string ⟨#[]⟩, .int .i64 9, .int .i64 9, .bool false, .bool false, .string ⟨#[99, 110]⟩, .string ⟨#[110, 97, 109, 101]⟩, .int .i64 1, .int .i64 2, .bool false, .bool false, .string ⟨#[110, 97, 109, 101]⟩, .string ⟨#[]⟩, .int .i64 1, .int .i64 2, .bool false, .bool false, .string ⟨#[112, 104, 111, 110, 101]⟩, .string ⟨#[]⟩, .int .i64 8, .int .i64 8, .bool false, .bool false]) (T := 65) (v := .slice (some ⟨w.heap.size + 1, 0, none⟩) 4 4) (by rw [hs]; rfl) (by decide) (by rfl))
  obtain ⟨w1, e1⟩ : ∃ w1, w.alloc (.cells #[.slice (some ⟨w.heap.size + 1, 0, none⟩) 4 4, .slice (some ⟨w.heap.size + 1 + 1 + 1 + 1 + 1, 0, none⟩) 2 2] 25) = w1 := ⟨_, rfl⟩
  have z1 : w1.heap.size = w.heap.size + 1 := by rw [← e1, hs]
  have hR : Bs w.heap.size (.slice (some ⟨w.heap.size + 1, 0, none⟩) 4 4) (.slice (some ⟨w.heap.size + 1 + 1 + 1 + 1 + 1, 0, none⟩) 2 2) w1 := by rw [← e1]; exact heap_new w _
  have b1 : Below w.heap.size w w1 := by rw [← e1]; exact Below.one w _
  rw [e1] at HT ⊢
  generalize hv2 : w1.alloc (.cells #[.string ⟨#[99, 108, 115]⟩, .string ⟨#[]⟩, .int .i64 9, .int .i64 9, .bool false, .bool false, .string ⟨#[99, 110]⟩, .string ⟨#[110, 97, 109, 101]⟩, .int .i64 1, .int .i64 2, .bool false, .bool false, .string ⟨#[110, 97, 109, 101]⟩, .string ⟨#[]⟩, .int .i64 1, .int .i64 2, .bool false, .bool false, .string ⟨#[112, 104, 111, 110, 101]⟩, .string ⟨#[]⟩, .int .i64 8, .int .i64 8, .bool false, .bool false] 65) = w2 at *
  have z2 : w2.heap.size = w.heap.size + 1 + 1 := by rw [← hv2, hs, z1]
  have b2 : Below w1.heap.size w1 w2 := by rw [← hv2]; exact Below.one w1 _
  have HA := hide (ts_of (W := w2) (l := [tnm]) (cs := #[.string ⟨#[110, 97, 109, 101]⟩]) (T := 9) (v := .slice (some ⟨w.heap.size + 1 + 1, 0, none⟩) 1 1) (by rw [z2]; rfl) (by decide) (by rfl))
  generalize hv3 : w2.alloc (.cells #[.string ⟨#[110, 97, 109, 101]⟩] 9) = w3 at *
  have z3 : w3.heap.size = w.heap.size + 1 + 1 + 1 := by rw [← hv3, hs, z2]
  have b3 : Below w2.heap.size w2 w3 := by rw [← hv3]; exact Below.one w2 _
  have HB := hide (ts_of (W := w3) (l := [tpho]) (cs := #[.string ⟨#[112, 104, 111, 110, 101]⟩]) (T := 9) (v := .slice (some ⟨w.heap.size + 1 + 1 + 1, 0, none⟩) 1 1) (by rw [z3]; rfl) (by decide) (by rfl))
  generalize hv4 : w3.alloc (.cells #[.string ⟨#[112, 104, 111, 110, 101]⟩] 9) = w4 at *
  have z4 : w4.heap.size = w.heap.size + 1 + 1 + 1 + 1 := by rw [← hv4, hs, z3]
  have b4 : Below w3.heap.size w3 w4 := by rw [← hv4]; exact Below.one w3 _
  have HD := hide (ts_of (W := w4) (l := [tcls]) (cs := #[.string ⟨#[99, 108, 115]⟩]) (T := 9) (v := .slice (some ⟨w.heap.size + 1 + 1 + 1 + 1, 0, none⟩) 1 1) (by rw [z4]; rfl) (by decide) (by rfl))
  generalize hv5 : w4.alloc (.cells #[.string ⟨#[99, 108, 115]⟩] 9) = w5 at *
  have z5 : w5.heap.size = w.heap.size + 1 + 1 + 1 + 1 + 1 := by rw [← hv5, hs, z4]
  have b5 : Below w4.heap.size w4 w5 := by rw [← hv5]; exact Below.one w4 _
  have k5 : Below w1.heap.size w1 w5 := ((b2.trans (b3.mono b2.size)).trans (b4.mono (by omega))).trans (b5.mono (by omega))
  have hc : ∀ (o : Nat) (u : Value), (#[Value.string ⟨#[112, 101, 114, 115, 111, 110]⟩, .string ⟨#[116, 111, 112]⟩, .bool false, .slice (some ⟨w.heap.size + 1 + 1, 0, none⟩) 1 1, .slice (some ⟨w.heap.size + 1 + 1 + 1, 0, none⟩) 1 1, .string ⟨#[116, 111, 112]⟩, .string ⟨#[]⟩, .bool true, .slice (some ⟨w.heap.size + 1 + 1 + 1 + 1, 0, none⟩) 1 1, .slice none 0 0] : Array Value)[o]? = some u → (w5.alloc (.cells #[.string ⟨#[112, 101, 114, 115, 111, 110]⟩, .string ⟨#[116, 111, 112]⟩, .bool false, .slice (some ⟨w.heap.size + 1 + 1, 0, none⟩) 1 1, .slice (some ⟨w.heap.size + 1 + 1 + 1, 0, none⟩) 1 1, .string ⟨#[116, 111, 112]⟩, .string ⟨#[]⟩, .bool true, .slice (some ⟨w.heap.size + 1 + 1 + 1 + 1, 0, none⟩) 1 1, .slice none 0 0] 49)).cell? ⟨w.heap.size + 1 + 1 + 1 + 1 + 1, o, none⟩ = some u := fun o u hu => by
    rw [← z5, World.cell?_alloc_mark]
    exact hu
  have b6 : Below w5.heap.size w5 (w5.alloc (.cells #[.string ⟨#[112, 101, 114, 115, 111, 110]⟩, .string ⟨#[116, 111, 112]⟩, .bool false, .slice (some ⟨w.heap.size + 1 + 1, 0, none⟩) 1 1, .slice (some ⟨w.heap.size + 1 + 1 + 1, 0, none⟩) 1 1, .string ⟨#[116, 111, 112]⟩, .string ⟨#[]⟩, .bool true, .slice (some ⟨w.heap.size + 1 + 1 + 1 + 1, 0, none⟩) 1 1, .slice none 0 0] 49)) := Below.one w5 _
  generalize w5.alloc (.cells #[.string ⟨#[112, 101, 114, 115, 111, 110]⟩, .string ⟨#[116, 111, 112]⟩, .bool false, .slice (some ⟨w.heap.size + 1 + 1, 0, none⟩) 1 1, .slice (some ⟨w.heap.size + 1 + 1 + 1, 0, none⟩) 1 1, .string ⟨#[116, 111, 112]⟩, .string ⟨#[]⟩, .bool true, .slice (some ⟨w.heap.size + 1 + 1 + 1 + 1, 0, none⟩) 1 1, .slice none 0 0] 49) = w6 at *
  have k6 : Below w1.heap.size w1 w6 := k5.trans (b6.mono (by omega))
  refine bodyPost_ret (results_cell_row (P := Try.prog) (ty := 25) rfl _ w6 w.heap.size 25 #[.slice (some ⟨w.heap.size + 1, 0, none⟩) 4 4, .slice (some ⟨w.heap.size + 1 + 1 + 1 + 1 + 1, 0, none⟩) 2 2] (0, 0) _ rfl (hR.keep k6) Try.underlying25 rfl (by kernel_rfl)) rfl ?_
  refine ⟨_, _, rfl, ?_, ?_, b1.trans (k6.mono (by omega))⟩
  · exact (unhide HT).below ((b3.trans (b4.mono (by omega))).trans ((b5.mono (by omega)).trans (b6.mono (by omega))))
  · refine ⟨_, _, rfl, ⟨Nat.le_refl _, by decide⟩, fun _ => ⟨_, 0, rfl, fun j hj => ?_⟩⟩
    have hA := (unhide HA).below (((b4.mono (by omega)).trans (b5.mono (by omega))).trans (b6.mono (by omega)))
    have hB := (unhide HB).below ((b5.mono (by omega)).trans (b6.mono (by omega)))
    have hD := (unhide HD).below b6
    rw [Nat.zero_add]
    match j, hj with
    | 0, _ => exact ⟨hc 0 _ rfl, hc 1 _ rfl, hc 2 _ rfl, ⟨_, hc 3 _ rfl, hA⟩, ⟨_, hc 4 _ rfl, hB⟩⟩
    | 1, _ => exact ⟨hc 5 _ rfl, hc 6 _ rfl, hc 7 _ rfl, ⟨_, hc 8 _ rfl, hD⟩, ⟨_, hc 9 _ rfl, nil_ts _⟩⟩
end Go.Proofs.Ytjjildpdelkejaa
