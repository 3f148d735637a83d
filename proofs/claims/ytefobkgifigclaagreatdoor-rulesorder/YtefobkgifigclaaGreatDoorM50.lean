/- The schema of layer 22's laws. -/
import Derived.Test.YtefobkgifigclaaGreatDoorM40
import Derived.Test.YtefobkgifigclaaGreatDoorM01
import Derived.Test.YtefobkgifigclaaGreatDoorM28
import Derived.Test.YtefobkgifigclaaGreatDoorM41
import Derived.Test.YtefobkgifigclaaGreatDoorM20
import Derived.Test.YtefobkgifigclaaGreatDoorM27
import Derived.Test.YtefobkgifigclaaGreatDoorM26
import Derived.Test.YtefobkgifigclaaGreatDoorM35
import Derived.Test.YtefobkgifigclaaGreatDoorM49
namespace Go.Proofs.YtefobkgifigclaaGreatDoor
set_option maxRecDepth 100000
open Go.RowKit

def sc22 : List S20.Ty := [⟨⟨#[99, 110]⟩, ⟨#[]⟩, 1, 2, false, false⟩, ⟨⟨#[111]⟩, ⟨#[]⟩, 1, 2, false, false⟩]
set_option maxHeartbeats 3200000 in
set_option maxRecDepth 100000 in
theorem schema22_any (w : World) : Calls Tryz.prog 16 #[] w fun e w' => ∃ va, e = .returned (.agg #[va, .slice none 0 0]) ∧ S20.TysV w' va sc22 ∧ Below w.heap.size w w' := by
  go_enter Tryz.func16, Tryz.ntmps16
  go_wp2
  have hs : ∀ (W : World) (o : Obj), (W.alloc o).heap.size = W.heap.size + 1 := fun W o => by simp
  obtain ⟨w1, e1⟩ : ∃ w1, w.alloc (.cells #[.slice (some ⟨w.heap.size + 1, 0, none⟩) 2 2, .slice none 0 0] 38) = w1 := ⟨_, rfl⟩
  have z1 : w1.heap.size = w.heap.size + 1 := by rw [← e1, hs]
  have hR : w1.heap[w.heap.size]? = some (.cells #[.slice (some ⟨w.heap.size + 1, 0, none⟩) 2 2, .slice none 0 0] 38) := by rw [← e1]; exact heap_new w _
  have b1 : Below w.heap.size w w1 := by rw [← e1]; exact Below.one w _
  rw [e1]
  have HT := hide (S20.tys_of (W := w1) (l := sc22) (cs := #[.string ⟨#[99, 110]⟩, .string ⟨#[]⟩, .int .i64 1, .int .i64 2, .bool false, .bool false, .string ⟨#[111]⟩, .string ⟨#[]⟩, .int .i64 1, .int .i64 2, .bool false, .bool false]) (T := 67) (v := .slice (some ⟨w.heap.size + 1, 0, none⟩) 2 2) (by rw [z1]; rfl) (by decide) (by rfl))
  have b2 := Below.one w1 (.cells #[.string ⟨#[99, 110]⟩, .string ⟨#[]⟩, .int .i64 1, .int .i64 2, .bool false, .bool false, .string ⟨#[111]⟩, .string ⟨#[]⟩, .int .i64 1, .int .i64 2, .bool false, .bool false] 67)
  refine bodyPost_ret (results_cell_row (P := Tryz.prog) (ty := 38) rfl _ _ w.heap.size 38 #[.slice (some ⟨w.heap.size + 1, 0, none⟩) 2 2, .slice none 0 0] (0, 0) _ rfl ((b2.block _ (by omega)).trans hR) Tryz.underlying38 rfl (by kernel_rfl)) rfl ?_
  exact ⟨_, rfl, unhide HT, b1.trans (b2.mono (by omega))⟩
end Go.Proofs.YtefobkgifigclaaGreatDoor
/- The probe of layer 22's laws, out of the landed contracts. -/
namespace Go.Proofs.YtefobkgifigclaaGreatDoor
set_option maxRecDepth 100000
open Go.RowKit

def nm22 : List (List S18.Pr) := [[⟨⟨#[99, 110]⟩, ⟨#[88]⟩⟩], [⟨⟨#[111]⟩, ⟨#[89]⟩⟩]]
theorem new_cell (w : World) (cs : Array Value) (T : TypeId) (o : Nat) : (w.alloc (.cells cs T)).cell? ⟨w.heap.size, o, none⟩ = cs[o]? := by
  rw [World.cell?_alloc_mark]
theorem one22 (w : World) (a b : ByteArray) : S18.PsV (w.alloc (.cells #[.string a, .string b] 53)) (.slice (some ⟨w.heap.size, 0, none⟩) 1 1) [⟨a, b⟩] := by
  refine ⟨_, _, rfl, by simp, fun _ => ⟨w.heap.size, 0, rfl, fun j hj => ?_⟩⟩
  obtain rfl : j = 0 := by simp at hj; exact hj
  exact ⟨new_cell w _ _ _, new_cell w _ _ _⟩
theorem nm22_new (w : World) : S18.NmV (((w.alloc (.cells #[.string ⟨#[99, 110]⟩, .string ⟨#[88]⟩] 53)).alloc (.cells #[.string ⟨#[111]⟩, .string ⟨#[89]⟩] 53)).alloc (.cells #[.slice (some ⟨w.heap.size, 0, none⟩) 1 1, .slice (some ⟨w.heap.size + 1, 0, none⟩) 1 1] 55)) (.slice (some ⟨w.heap.size + 1 + 1, 0, none⟩) 2 2) nm22 ∧ Below w.heap.size w (((w.alloc (.cells #[.string ⟨#[99, 110]⟩, .string ⟨#[88]⟩] 53)).alloc (.cells #[.string ⟨#[111]⟩, .string ⟨#[89]⟩] 53)).alloc (.cells #[.slice (some ⟨w.heap.size, 0, none⟩) 1 1, .slice (some ⟨w.heap.size + 1, 0, none⟩) 1 1] 55)) := by
  have b1 := Below.one w (.cells #[.string ⟨#[99, 110]⟩, .string ⟨#[88]⟩] 53)
  have z1 : (w.alloc (.cells #[.string ⟨#[99, 110]⟩, .string ⟨#[88]⟩] 53)).heap.size = w.heap.size + 1 := by simp
  have h1 := one22 w ⟨#[99, 110]⟩ ⟨#[88]⟩
  generalize w.alloc (.cells #[.string ⟨#[99, 110]⟩, .string ⟨#[88]⟩] 53) = w1 at *
  have b2 := Below.one w1 (.cells #[.string ⟨#[111]⟩, .string ⟨#[89]⟩] 53)
  have z2 : (w1.alloc (.cells #[.string ⟨#[111]⟩, .string ⟨#[89]⟩] 53)).heap.size = w.heap.size + 1 + 1 := by simp [z1]
  have h2 := one22 w1 ⟨#[111]⟩ ⟨#[89]⟩
  rw [z1] at h2
  generalize w1.alloc (.cells #[.string ⟨#[111]⟩, .string ⟨#[89]⟩] 53) = w2 at *
  have b3 := Below.one w2 (.cells #[.slice (some ⟨w.heap.size, 0, none⟩) 1 1, .slice (some ⟨w.heap.size + 1, 0, none⟩) 1 1] 55)
  have hc := new_cell w2 #[.slice (some ⟨w.heap.size, 0, none⟩) 1 1, .slice (some ⟨w.heap.size + 1, 0, none⟩) 1 1] 55
  rw [z2] at hc
  refine ⟨⟨_, _, rfl, by decide, by decide, fun _ => ⟨_, 0, rfl, fun j hj => ?_⟩⟩, (b1.trans (b2.mono b1.size)).trans (b3.mono (by omega))⟩
  match j, hj with
  | 0, _ => exact ⟨_, hc 0, (h1.below b2).below b3⟩
  | 1, _ => exact ⟨_, hc 1, h2.below b3⟩
set_option maxHeartbeats 12800000 in
set_option maxRecDepth 100000 in
theorem awake22_of (w : World)
    (K1 : ∀ va W, Below w.heap.size w W → S20.TysV W va sc22 → Calls Tryz.prog 22 #[.agg #[va, .slice none 0 0], .int .i64 2, .string ⟨#[65, 32, 32, 98]⟩] W fun e w' => e = .returned (.tuple #[.string ⟨#[32, 97, 32, 32, 98, 32]⟩, .int .i64 0]) ∧ Below W.heap.size W w')
    (K2 : ∀ va W, Below w.heap.size w W → S20.TysV W va sc22 → Calls Tryz.prog 22 #[.agg #[va, .slice none 0 0], .int .i64 3, .string ⟨#[45, 49]⟩] W fun e w' => e = .returned (.tuple #[.string ⟨#[48, 57, 57, 57, 57, 57, 57, 57, 57, 57, 57, 57, 57, 57, 57, 57, 57, 57, 57]⟩, .int .i64 0]) ∧ Below W.heap.size W w')
    (K3 : ∀ va W, Below w.heap.size w W → S20.TysV W va sc22 → Calls Tryz.prog 22 #[.agg #[va, .slice none 0 0], .int .i64 10, .string ⟨#[51, 43, 52, 105]⟩] W fun e w' => e = .returned (.tuple #[.string ⟨#[48, 48, 48, 48, 48, 48, 48, 48, 48, 48, 48, 50, 53, 49, 48, 48, 48, 48, 48, 51, 49, 48, 48, 48, 48, 48, 52]⟩, .int .i64 0]) ∧ Below W.heap.size W w')
    (K4 : ∀ va vn W, Below w.heap.size w W → S20.TysV W va sc22 → S18.NmV W vn nm22 → Calls Tryz.prog 23 #[.agg #[va, .slice none 0 0], vn] W fun e w' => e = .returned (.tuple #[.string ⟨#[111, 61, 32, 121, 32, 0, 99, 110, 61, 32, 120, 32, 0]⟩, .int .i64 0]) ∧ Below W.heap.size W w')
    (K5 : ∀ va W, Below w.heap.size w W → S20.TysV W va sc22 → Calls Tryz.prog 18 #[.agg #[va, .slice none 0 0], .int .i64 6, .string ⟨#[99, 110, 61, 97, 32, 98, 44, 111, 61, 99]⟩, .string ⟨#[67, 78, 61, 65, 32, 32, 66, 44, 79, 61, 67]⟩] W fun e w' => e = .returned (.tuple #[.bool true, .int .i64 0]) ∧ Below W.heap.size W w')
    (K6 : ∀ va W, Below w.heap.size w W → S20.TysV W va sc22 → Calls Tryz.prog 15 #[.agg #[va, .slice none 0 0], .int .i64 3, .string ⟨#[45, 53]⟩, .string ⟨#[51]⟩] W fun e w' => e = .returned (.tuple #[.int .i64 (-1), .int .i64 0]) ∧ Below W.heap.size W w')
    (K7 : ∀ W, Below w.heap.size w W → Calls Tryz.prog 7 #[.string ⟨#[110, 101, 97, 114]⟩] W fun e w' => e = .returned (.int .i64 11) ∧ Below W.heap.size W w')
    (K8 : ∀ W, Below w.heap.size w W → Calls Tryz.prog 5 #[.int .i64 1] W fun e w' => e = .returned (.string ⟨#[101, 120, 97, 99, 116]⟩) ∧ Below W.heap.size W w') :
    Calls Tryz.prog 13 #[] w fun e w' => e = .returned (.bool true) ∧ Below w.heap.size w w' := by
  have mx : Tryz.prog.follows .mixedOrders = true := by kernel_rfl
  have b0 := Below.refl w.heap.size w
  have H1 := hide K1
  have H2 := hide K2
  have H3 := hide K3
  have H4 := hide K4
  have H5 := hide K5
  have H6 := hide K6
  have H7 := hide K7
  have H8 := hide K8
  clear K1 K2 K3 K4 K5 K6 K7 K8
  go_enter Tryz.func13, Tryz.ntmps13
  go_wp2_with (first
    | (go_at_call 5; refine (unhide H8 _ t7).mono ?_; rintro e w8 ⟨rfl, b8⟩; have t8 := t7.trans (b8.mono t7.size))
    | (go_at_call 7; refine (unhide H7 _ tk6).mono ?_; rintro e w7 ⟨rfl, b7⟩; have t7 := tk6.trans (b7.mono tk6.size))
    | (go_at_call 15; refine (unhide H6 _ _ ts6 (unhide V6)).mono ?_; rintro e wk6 ⟨rfl, bk6⟩; have tk6 := ts6.trans (bk6.mono ts6.size))
    | (go_at_call 16; refine (schema22_any _).mono ?_; rintro e ws6 ⟨va6, rfl, hv6, bs6⟩; have ts6 := tk5.trans (bs6.mono tk5.size); have V6 := hide hv6; clear hv6)
    | (go_at_call 18; refine (unhide H5 _ _ ts5 (unhide V5)).mono ?_; rintro e wk5 ⟨rfl, bk5⟩; have tk5 := ts5.trans (bk5.mono ts5.size))
    | (go_at_call 16; refine (schema22_any _).mono ?_; rintro e ws5 ⟨va5, rfl, hv5, bs5⟩; have ts5 := tk4.trans (bs5.mono tk4.size); have V5 := hide hv5; clear hv5)
    | (go_at_call 23; refine (unhide H4 _ _ _ tn4 (unhide V4b) (unhide N4).1).mono ?_; rintro e wk4 ⟨rfl, bk4⟩; have tk4 := tn4.trans (bk4.mono tn4.size))
    | (go_at_call 16; refine (schema22_any _).mono ?_; rintro e ws4 ⟨va4, rfl, hv4, bs4⟩; have ts4 := tk3.trans (bs4.mono tk3.size); have V4 := hide hv4; clear hv4; have N4 := hide (nm22_new ws4); have tn4 := ts4.trans ((unhide N4).2.mono ts4.size); have V4b := hide ((unhide V4).below (unhide N4).2))
    | (go_at_call 22; refine (unhide H3 _ _ ts3 (unhide V3)).mono ?_; rintro e wk3 ⟨rfl, bk3⟩; have tk3 := ts3.trans (bk3.mono ts3.size))
    | (go_at_call 16; refine (schema22_any _).mono ?_; rintro e ws3 ⟨va3, rfl, hv3, bs3⟩; have ts3 := tk2.trans (bs3.mono tk2.size); have V3 := hide hv3; clear hv3)
    | (go_at_call 22; refine (unhide H2 _ _ ts2 (unhide V2)).mono ?_; rintro e wk2 ⟨rfl, bk2⟩; have tk2 := ts2.trans (bk2.mono ts2.size))
    | (go_at_call 16; refine (schema22_any _).mono ?_; rintro e ws2 ⟨va2, rfl, hv2, bs2⟩; have ts2 := tk1.trans (bs2.mono tk1.size); have V2 := hide hv2; clear hv2)
    | (go_at_call 22; refine (unhide H1 _ _ ts1 (unhide V1)).mono ?_; rintro e wk1 ⟨rfl, bk1⟩; have tk1 := ts1.trans (bk1.mono ts1.size))
    | (go_at_call 16; refine (schema22_any _).mono ?_; rintro e ws1 ⟨va1, rfl, hv1, bs1⟩; have ts1 := b0.trans (bs1.mono b0.size); have V1 := hide hv1; clear hv1))
  go_ret
  exact ⟨rfl, t8⟩
end Go.Proofs.YtefobkgifigclaaGreatDoor
/- What the probe of layer 22 asks, plainly; keys of numbers and the order of the elder layers. -/
namespace Go.Proofs.YtefobkgifigclaaGreatDoor
set_option maxRecDepth 100000
open Go.RowKit

theorem pv22_0 : Ez 2 ⟨#[65, 32, 32, 98]⟩ ∧ vE 2 ⟨#[65, 32, 32, 98]⟩ = 0 ∧ vS 2 ⟨#[65, 32, 32, 98]⟩ = ⟨#[32, 97, 32, 32, 98, 32]⟩ := by
  obtain ⟨h1, h2, h3⟩ := easy_asc 2 (s := ⟨#[65, 32, 32, 98]⟩) (by unfold Asc; decide +kernel) (by decide)
  refine ⟨h1, h2, ?_⟩
  rw [h3]
  kernel_rfl
theorem pv22_1 : Ez 2 ⟨#[88]⟩ ∧ vE 2 ⟨#[88]⟩ = 0 ∧ vS 2 ⟨#[88]⟩ = ⟨#[32, 120, 32]⟩ := by
  obtain ⟨h1, h2, h3⟩ := easy_asc 2 (s := ⟨#[88]⟩) (by unfold Asc; decide +kernel) (by decide)
  refine ⟨h1, h2, ?_⟩
  rw [h3]
  kernel_rfl
theorem pv22_2 : Ez 2 ⟨#[89]⟩ ∧ vE 2 ⟨#[89]⟩ = 0 ∧ vS 2 ⟨#[89]⟩ = ⟨#[32, 121, 32]⟩ := by
  obtain ⟨h1, h2, h3⟩ := easy_asc 2 (s := ⟨#[89]⟩) (by unfold Asc; decide +kernel) (by decide)
  refine ⟨h1, h2, ?_⟩
  rw [h3]
  kernel_rfl
theorem pv22_3 : Ez 2 ⟨#[97, 32, 98]⟩ ∧ vE 2 ⟨#[97, 32, 98]⟩ = 0 ∧ vS 2 ⟨#[97, 32, 98]⟩ = ⟨#[32, 97, 32, 32, 98, 32]⟩ := by
  obtain ⟨h1, h2, h3⟩ := easy_asc 2 (s := ⟨#[97, 32, 98]⟩) (by unfold Asc; decide +kernel) (by decide)
  refine ⟨h1, h2, ?_⟩
  rw [h3]
  kernel_rfl
theorem pv22_4 : Ez 2 ⟨#[65, 32, 32, 66]⟩ ∧ vE 2 ⟨#[65, 32, 32, 66]⟩ = 0 ∧ vS 2 ⟨#[65, 32, 32, 66]⟩ = ⟨#[32, 97, 32, 32, 98, 32]⟩ := by
  obtain ⟨h1, h2, h3⟩ := easy_asc 2 (s := ⟨#[65, 32, 32, 66]⟩) (by unfold Asc; decide +kernel) (by decide)
  refine ⟨h1, h2, ?_⟩
  rw [h3]
  kernel_rfl
theorem pv22_5 : Ez 2 ⟨#[99]⟩ ∧ vE 2 ⟨#[99]⟩ = 0 ∧ vS 2 ⟨#[99]⟩ = ⟨#[32, 99, 32]⟩ := by
  obtain ⟨h1, h2, h3⟩ := easy_asc 2 (s := ⟨#[99]⟩) (by unfold Asc; decide +kernel) (by decide)
  refine ⟨h1, h2, ?_⟩
  rw [h3]
  kernel_rfl
theorem pv22_6 : Ez 2 ⟨#[67]⟩ ∧ vE 2 ⟨#[67]⟩ = 0 ∧ vS 2 ⟨#[67]⟩ = ⟨#[32, 99, 32]⟩ := by
  obtain ⟨h1, h2, h3⟩ := easy_asc 2 (s := ⟨#[67]⟩) (by unfold Asc; decide +kernel) (by decide)
  refine ⟨h1, h2, ?_⟩
  rw [h3]
  kernel_rfl
theorem pi22 : intP ⟨#[45, 49]⟩ = some (-1) ∧ intP ⟨#[45, 53]⟩ = some (-5) ∧ intP ⟨#[51]⟩ = some 3 := ⟨by kernel_rfl, by kernel_rfl, by kernel_rfl⟩
theorem pk22 : (⟨(keyI (-1)).toArray⟩ : ByteArray) = ⟨#[48, 57, 57, 57, 57, 57, 57, 57, 57, 57, 57, 57, 57, 57, 57, 57, 57, 57, 57]⟩ ∧ (⟨(keyG 3 4).toArray⟩ : ByteArray) = ⟨#[48, 48, 48, 48, 48, 48, 48, 48, 48, 48, 48, 50, 53, 49, 48, 48, 48, 48, 48, 51, 49, 48, 48, 48, 48, 48, 52]⟩ ∧ cmB (keyI (-5)) (keyI 3) = -1 := ⟨by kernel_rfl, by kernel_rfl, by kernel_rfl⟩
theorem pg22 : S14.parG (S14.nums ⟨#[51, 43, 52, 105]⟩) = (3, 4) ∧ S14.parF (S14.nums ⟨#[51, 43, 52, 105]⟩) = 0 := ⟨by kernel_rfl, by kernel_rfl⟩
def nmE : List (List S18.Pr) := [[⟨⟨#[99, 110]⟩, ⟨#[97, 32, 98]⟩⟩], [⟨⟨#[111]⟩, ⟨#[99]⟩⟩]]
def nmF : List (List S18.Pr) := [[⟨⟨#[99, 110]⟩, ⟨#[65, 32, 32, 66]⟩⟩], [⟨⟨#[111]⟩, ⟨#[67]⟩⟩]]
theorem pn22 : S18.parE (S18.nums ⟨#[99, 110, 61, 97, 32, 98, 44, 111, 61, 99]⟩) = 0 ∧ S18.parE (S18.nums ⟨#[67, 78, 61, 65, 32, 32, 66, 44, 79, 61, 67]⟩) = 0 ∧ S18.chkN nm22 = 0 ∧ S18.chkN nmE = 0 ∧ S18.chkN nmF = 0 := ⟨by kernel_rfl, by kernel_rfl, by kernel_rfl, by kernel_rfl, by kernel_rfl⟩
theorem pm22 : S18.parN (S18.nums ⟨#[99, 110, 61, 97, 32, 98, 44, 111, 61, 99]⟩) = nmE ∧ S18.parN (S18.nums ⟨#[67, 78, 61, 65, 32, 32, 66, 44, 79, 61, 67]⟩) = nmF := ⟨by kernel_rfl, by kernel_rfl⟩
theorem pt22 : S20.chkT sc22 = 0 ∧ S20.fewT sc22 = true ∧ (S20.fndA sc22 ⟨#[99, 110]⟩).rul = 2 ∧ S20.fndB sc22 ⟨#[99, 110]⟩ = true ∧ (S20.fndA sc22 ⟨#[111]⟩).rul = 2 ∧ S20.fndB sc22 ⟨#[111]⟩ = true := ⟨by kernel_rfl, by kernel_rfl, by kernel_rfl, by kernel_rfl, by kernel_rfl, by kernel_rfl⟩
/-- By their keys as by themselves. -/
theorem po22_int {s t : ByteArray} {m n : Int} (h1 : intP s = some m) (h2 : intP t = some n) : cmB (keyI m) (keyI n) = if m < n then -1 else if n < m then 1 else 0 := by
  have b : ∀ {u : ByteArray} {k : Int}, intP u = some k → -999999999999999999 ≤ k ∧ k ≤ 999999999999999999 := fun h => by
    unfold intP at h
    split at h
    · split at h
      · rename_i hq
        cases h
        exact ⟨hq.1, hq.2.1⟩
      · cases h
    · cases h
  exact keyI_cmp (b h1).1 (b h1).2 (b h2).1 (b h2).2
theorem po22_gauss (l m : List Int) : cmB (keyG (S14.parG l).1 (S14.parG l).2) (keyG (S14.parG m).1 (S14.parG m).2) = S14.cmpG (some (S14.parG l)) (some (S14.parG m)) := by
  have h1 := S14.parG_in l
  have h2 := S14.parG_in m
  exact keyG_cmp h1.1 h1.2.1 h1.2.2.1 h1.2.2.2 h2.1 h2.2.1 h2.2.2.1 h2.2.2.2
theorem po22_near (l m : List Int) : decide (keyN (S14.parG l).1 (S14.parG l).2 = keyN (S14.parG m).1 (S14.parG m).2) = (S14.nrm (some (S14.parG l)) == S14.nrm (some (S14.parG m))) := by
  have h1 := S14.parG_in l
  have h2 := S14.parG_in m
  rw [keyN_eq h1.1 h1.2.1 h1.2.2.1 h1.2.2.2 h2.1 h2.2.1 h2.2.2.1 h2.2.2.2]
  rfl
end Go.Proofs.YtefobkgifigclaaGreatDoor
/- The probe of layer 22, and its two laws that prepare nothing but ASCII. -/
namespace Go.Proofs.YtefobkgifigclaaGreatDoor
set_option maxRecDepth 100000
open Go.RowKit

def tcn : ByteArray := ⟨#[99, 110]⟩
def tob : ByteArray := ⟨#[111]⟩
/-- A name of two parts. -/
def nm2 (a b : ByteArray) : List (List S18.Pr) := [[⟨tcn, a⟩], [⟨tob, b⟩]]
def ps2 (a b : ByteArray) (j : Fin 2) : S18.Pr := if j.val = 0 then ⟨tcn, a⟩ else ⟨tob, b⟩
def ks2 (a b : ByteArray) (j : Fin 2) : ByteArray := if j.val = 0 then pairS tcn a else pairS tob b
/-- Its key, where its values' keys are these. -/
def nk2 (a b : ByteArray) : ByteArray := ⟨(acc22 (ks2 a b) (dn22 2 2)).toArray⟩
theorem pairS_size (n k : ByteArray) : (pairS n k).size ≤ n.size + 1 + 2 * k.size := by
  have h := esc_size k
  unfold pairS
  rw [ByteArray.size_append, ByteArray.size_append]
  have : (ByteArray.mk #[61]).size = 1 := rfl
  omega
/-- A value that is easy, and short. -/
structure Esy (a x : ByteArray) : Prop where
  ez : Ez 2 a
  e0 : vE 2 a = 0
  k : vS 2 a = x
  sz : a.size ≤ 400
  kz : x.size ≤ 1000
theorem no0 : ∀ j, j < 1 → (sc22.getD j S20.ty0).nam ≠ tob := fun j hj => by
  have : j = 0 := by omega
  subst this
  decide
theorem name2 (a b x y : ByteArray) (va vb vn : Value) (w : World) (hL : LK w) (ha : Esy a x) (hb : Esy b y) (hV : S20.TysV w va sc22) (hN : S18.NmV w vn (nm2 a b)) (hc : S18.chkN (nm2 a b) = 0) :
    Calls Tryz.prog 23 #[.agg #[va, vb], vn] w fun e w' => e = .returned (.tuple #[.string (nk2 x y), .int .i64 0]) ∧ Below w.heap.size w w' := by
  refine nameKey22 va vb vn sc22 (nm2 a b) (ps2 a b) (ks2 x y) w hV pt22.2.1 pt22.1 hN hc (show 2 ≤ 1000 by decide) (fun j => ?_) (fun j => ?_) (fun W bs j hW hS => ?_)
  · obtain ⟨j, hj⟩ := j
    have hj2 : j < 2 := hj
    have : j = 0 ∨ j = 1 := by omega
    rcases this with rfl | rfl <;> rfl
  · have h1 := pairS_size tcn x
    have h2 := pairS_size tob y
    have h3 := ha.kz
    have h4 := hb.kz
    have s1 : tcn.size = 2 := rfl
    have s2 : tob.size = 1 := rfl
    unfold ks2
    split <;> omega
  · have hLW := hL.keep hW
    have hVW := hV.below hW
    have s1 : tcn.size = 2 := rfl
    have s2 : tob.size = 1 := rfl
    have h3 := ha.kz
    have h4 := hb.kz
    have KA : ∀ W2, Below W.heap.size W W2 → Calls Tryz.prog 22 #[.agg #[va, vb], .int .i64 2, .string a] W2 fun e w' => e = .returned (.tuple #[.string x, .int .i64 0]) ∧ Below W2.heap.size W2 w' := fun W2 h => by
      have := key22_fold va vb a W2 (hLW.keep h) ha.sz ha.ez ha.e0
      rwa [ha.k] at this
    have KB : ∀ W2, Below W.heap.size W W2 → Calls Tryz.prog 22 #[.agg #[va, vb], .int .i64 2, .string b] W2 fun e w' => e = .returned (.tuple #[.string y, .int .i64 0]) ∧ Below W2.heap.size W2 w' := fun W2 h => by
      have := key22_fold va vb b W2 (hLW.keep h) hb.sz hb.ez hb.e0
      rwa [hb.k] at this
    obtain ⟨j, hj⟩ := j
    have hj2 : j < 2 := hj
    have : j = 0 ∨ j = 1 := by omega
    rcases this with rfl | rfl
    · exact pairKey22 bs tcn a x 0 va vb sc22 W hS hVW (by decide) rfl (fun j hj => absurd hj (Nat.not_lt_zero _)) (by omega) (by omega) KA
    · exact pairKey22 bs tob b y 1 va vb sc22 W hS hVW (by decide) rfl no0 (by omega) (by omega) KB
theorem es1 : Esy ⟨#[65, 32, 32, 98]⟩ ⟨#[32, 97, 32, 32, 98, 32]⟩ := ⟨pv22_0.1, pv22_0.2.1, pv22_0.2.2, by decide, by decide⟩
theorem es2 : Esy ⟨#[88]⟩ ⟨#[32, 120, 32]⟩ := ⟨pv22_1.1, pv22_1.2.1, pv22_1.2.2, by decide, by decide⟩
theorem es3 : Esy ⟨#[89]⟩ ⟨#[32, 121, 32]⟩ := ⟨pv22_2.1, pv22_2.2.1, pv22_2.2.2, by decide, by decide⟩
theorem es4 : Esy ⟨#[97, 32, 98]⟩ ⟨#[32, 97, 32, 32, 98, 32]⟩ := ⟨pv22_3.1, pv22_3.2.1, pv22_3.2.2, by decide, by decide⟩
theorem es5 : Esy ⟨#[65, 32, 32, 66]⟩ ⟨#[32, 97, 32, 32, 98, 32]⟩ := ⟨pv22_4.1, pv22_4.2.1, pv22_4.2.2, by decide, by decide⟩
theorem es6 : Esy ⟨#[99]⟩ ⟨#[32, 99, 32]⟩ := ⟨pv22_5.1, pv22_5.2.1, pv22_5.2.2, by decide, by decide⟩
theorem es7 : Esy ⟨#[67]⟩ ⟨#[32, 99, 32]⟩ := ⟨pv22_6.1, pv22_6.2.1, pv22_6.2.2, by decide, by decide⟩
theorem nk22_1 : nk2 ⟨#[32, 120, 32]⟩ ⟨#[32, 121, 32]⟩ = ⟨#[111, 61, 32, 121, 32, 0, 99, 110, 61, 32, 120, 32, 0]⟩ := by kernel_rfl
theorem pn22_1 : S18.chkN (nm2 ⟨#[88]⟩ ⟨#[89]⟩) = 0 ∧ S18.chkN (nm2 ⟨#[97, 32, 98]⟩ ⟨#[99]⟩) = 0 ∧ S18.chkN (nm2 ⟨#[65, 32, 32, 66]⟩ ⟨#[67]⟩) = 0 := ⟨by kernel_rfl, by kernel_rfl, by kernel_rfl⟩
theorem tl_is (l : List UInt8) : (⟨l.toArray⟩ : ByteArray).toList = l := by rw [Lib.toList_data]
theorem nmd_near : nmd ⟨#[110, 101, 97, 114]⟩ = 11 := by kernel_rfl
theorem wdB_one : wdB 1 = ⟨#[101, 120, 97, 99, 116]⟩ := by kernel_rfl
theorem awake22 (w : World) (hL : LK w) (hW : Lw w) : Calls Tryz.prog 13 #[] w fun e w' => e = .returned (.bool true) ∧ Below w.heap.size w w' := by
  refine awake22_of w ?_ ?_ ?_ ?_ ?_ ?_ ?_ ?_
  · intro va W h _
    have := key22_fold va (.slice none 0 0) ⟨#[65, 32, 32, 98]⟩ W (hL.keep h) (by decide) es1.ez es1.e0
    rwa [es1.k] at this
  · intro va W h _
    obtain ⟨e1, e2⟩ := int_some pi22.1
    refine (key22_int va (.slice none 0 0) ⟨#[45, 49]⟩ W (hL.keep h) (by decide)).mono fun e w' ⟨k, g, he, hk, hb⟩ => ⟨?_, hb⟩
    obtain ⟨rfl, rfl⟩ := hk e2
    rw [he, e1, pk22.1]
  · intro va W h _
    refine (key22_gauss va (.slice none 0 0) 10 false (.inl ⟨rfl, rfl⟩) ⟨#[51, 43, 52, 105]⟩ W (hL.keep h) (by decide)).mono fun e w' ⟨k, g, he, hk, hb⟩ => ⟨?_, hb⟩
    obtain ⟨rfl, rfl⟩ := hk pg22.2
    rw [he, pg22.1, if_neg (by decide), pk22.2.1]
  · intro va vn W h hV hN
    have := name2 ⟨#[88]⟩ ⟨#[89]⟩ _ _ va (.slice none 0 0) vn W (hL.keep h) es2 es3 hV hN pn22_1.1
    rwa [nk22_1] at this
  · intro va W h hV
    have K1 : KeyC va (.slice none 0 0) 6 ⟨#[99, 110, 61, 97, 32, 98, 44, 111, 61, 99]⟩ (nk2 ⟨#[32, 97, 32, 32, 98, 32]⟩ ⟨#[32, 99, 32]⟩) True W := fun W2 h2 => by
      refine (key22_name va (.slice none 0 0) _ _ W2 ((hL.keep h).keep h2) (by decide) pn22.1 (fun vn W3 h3 hN => ?_)).mono fun e w' ⟨he, hb⟩ => ⟨_, _, he, fun _ => ⟨rfl, rfl⟩, hb⟩
      rw [pm22.1] at hN
      exact name2 ⟨#[97, 32, 98]⟩ ⟨#[99]⟩ _ _ va _ vn W3 (((hL.keep h).keep h2).keep h3) es4 es6 ((hV.below h2).below h3) hN pn22_1.2.1
    have K2 : KeyC va (.slice none 0 0) 6 ⟨#[67, 78, 61, 65, 32, 32, 66, 44, 79, 61, 67]⟩ (nk2 ⟨#[32, 97, 32, 32, 98, 32]⟩ ⟨#[32, 99, 32]⟩) True W := fun W2 h2 => by
      refine (key22_name va (.slice none 0 0) _ _ W2 ((hL.keep h).keep h2) (by decide) pn22.2.1 (fun vn W3 h3 hN => ?_)).mono fun e w' ⟨he, hb⟩ => ⟨_, _, he, fun _ => ⟨rfl, rfl⟩, hb⟩
      rw [pm22.2] at hN
      exact name2 ⟨#[65, 32, 32, 66]⟩ ⟨#[67]⟩ _ _ va _ vn W3 (((hL.keep h).keep h2).keep h3) es5 es7 ((hV.below h2).below h3) hN pn22_1.2.2
    refine (equal22 va (.slice none 0 0) 6 _ _ _ _ True True W K1 K2).mono fun e w' ⟨q, g, he, hq, hb⟩ => ⟨?_, hb⟩
    obtain ⟨rfl, rfl⟩ := hq trivial trivial
    rw [he, decide_eq_true rfl]
  · intro va W h _
    obtain ⟨e1, e2⟩ := int_some pi22.2.1
    obtain ⟨f1, f2⟩ := int_some pi22.2.2
    refine (cmp22 va (.slice none 0 0) 3 rfl ⟨#[45, 53]⟩ ⟨#[51]⟩ _ _ _ _ W (fun W2 h2 => key22_int va _ _ W2 ((hL.keep h).keep h2) (by decide)) (fun W2 h2 => key22_int va _ _ W2 ((hL.keep h).keep h2) (by decide))).mono fun e w' ⟨c, g, he, hc, hb⟩ => ⟨?_, hb⟩
    obtain ⟨rfl, rfl⟩ := hc e2 f2
    rw [he, e1, f1]
    unfold cm22
    rw [tl_is, tl_is, pk22.2.2]
  · intro W h
    have := named22_any ⟨#[110, 101, 97, 114]⟩ W (hW.keep h)
    rwa [nmd_near] at this
  · intro W h
    have := word22_any 1 W (hW.keep h)
    rwa [wdB_one] at this
/-- The law RulesWords. -/
theorem wordsAll_law (n : Int) (s : ByteArray) (w : World) (hL : LK w) (hW : Lw w) : Calls Tryz.prog 3 #[.int .i64 n, .string s] w fun e w' => e = .returned (.bool true) ∧ Below w.heap.size w w' :=
  words22_law n s w (fun W h => word22_any n W (hW.keep h)) (fun W h => named22_any s W (hW.keep h)) (fun W _ => ord22_any n W) (fun W _ => way22_any n W) (fun W h => awake22 W (hL.keep h) (hW.keep h))
theorem intE_some {s : ByteArray} (h : intE s = 0) : ∃ n, intP s = some n ∧ intN s = n := by
  cases hp : intP s with
  | none => rw [(int_none hp).2] at h; cases h
  | some n => exact ⟨n, rfl, (int_some hp).1⟩
theorem ba_inj (l m : List UInt8) : decide ((⟨l.toArray⟩ : ByteArray) = ⟨m.toArray⟩) = decide (l = m) :=
  decide_eq_decide.2 ⟨fun h => by injection h with h; exact List.toArray_inj h, fun h => by rw [h]⟩
/-- The law RulesOrder. -/
theorem orderAll_law (a b : ByteArray) (w : World) (hL : LK w) (hW : Lw w) (ha : a.size ≤ 281474976710656) (hb : b.size ≤ 281474976710656) : Calls Tryz.prog 4 #[.agg #[.string a, .string b]] w fun e w' => e = .returned (.bool true) ∧ Below w.heap.size w w' := by
  refine order22_law a b w (intN a) (intE a) (intN b) (intE b) (S14.parF (S14.nums a)) (S14.parF (S14.nums b))
    (S14.cmpG (S14.pz (floatOfInt .f64 (S14.parG (S14.nums a)).1) (floatOfInt .f64 (S14.parG (S14.nums a)).2)) (S14.pz (floatOfInt .f64 (S14.parG (S14.nums b)).1) (floatOfInt .f64 (S14.parG (S14.nums b)).2)))
    (S14.nrm (S14.pz (floatOfInt .f64 (S14.parG (S14.nums a)).1) (floatOfInt .f64 (S14.parG (S14.nums a)).2))) (S14.nrm (S14.pz (floatOfInt .f64 (S14.parG (S14.nums b)).1) (floatOfInt .f64 (S14.parG (S14.nums b)).2)))
    _ _ _ _ (fun W va => S20.TysV W va sc22)
    (fun W h => int_any a W (hL.keep h).2 ha) (fun W h => int_any b W (hL.keep h).2 hb)
    (fun W h => (S14.gparse_w a W (by omega)).mono fun e w' ⟨he, hg⟩ => ⟨he, hg.below⟩)
    (fun W h => (S14.gparse_w b W (by omega)).mono fun e w' ⟨he, hg⟩ => ⟨he, hg.below⟩)
    (fun W _ => (S14.gcmp_w _ _ _ _ W).mono fun e w' ⟨he, hg⟩ => ⟨he, by rw [hg]; exact Below.refl _ _⟩)
    (fun W _ => (S14.gnorm_w _ _ W).mono fun e w' ⟨he, hg⟩ => ⟨he, by rw [hg]; exact Below.refl _ _⟩)
    (fun W _ => (S14.gnorm_w _ _ W).mono fun e w' ⟨he, hg⟩ => ⟨he, by rw [hg]; exact Below.refl _ _⟩)
    (fun W _ => schema22_any W) ?_ ?_ ?_ (fun W h => awake22 W (hL.keep h) (hW.keep h))
  · intro va W h _
    refine (cmp22 va (.slice none 0 0) 3 rfl a b _ _ _ _ W (fun W2 h2 => key22_int va _ a W2 ((hL.keep h).keep h2) ha) (fun W2 h2 => key22_int va _ b W2 ((hL.keep h).keep h2) hb)).mono fun e w' ⟨c, g, he, hc, hbl⟩ => ⟨c, g, he, fun p q => ?_, hbl⟩
    obtain ⟨rfl, rfl⟩ := hc p q
    obtain ⟨m, p1, p2⟩ := intE_some p
    obtain ⟨n, q1, q2⟩ := intE_some q
    refine ⟨rfl, ?_⟩
    unfold cm22
    rw [tl_is, tl_is, p2, q2, po22_int p1 q1]
    rfl
  · intro va W h _
    refine (cmp22 va (.slice none 0 0) 10 rfl a b _ _ _ _ W (fun W2 h2 => key22_gauss va _ 10 false (.inl ⟨rfl, rfl⟩) a W2 ((hL.keep h).keep h2) (by omega)) (fun W2 h2 => key22_gauss va _ 10 false (.inl ⟨rfl, rfl⟩) b W2 ((hL.keep h).keep h2) (by omega))).mono fun e w' ⟨c, g, he, hc, hbl⟩ => ⟨c, g, he, fun p q => ?_, hbl⟩
    obtain ⟨rfl, rfl⟩ := hc p q
    refine ⟨rfl, ?_⟩
    rw [if_neg (by decide), if_neg (by decide)]
    unfold cm22
    rw [tl_is, tl_is, po22_gauss, pz22, pz22]
  · intro va W h _
    refine (equal22 va (.slice none 0 0) 11 a b _ _ _ _ W (fun W2 h2 => key22_gauss va _ 11 true (.inr ⟨rfl, rfl⟩) a W2 ((hL.keep h).keep h2) (by omega)) (fun W2 h2 => key22_gauss va _ 11 true (.inr ⟨rfl, rfl⟩) b W2 ((hL.keep h).keep h2) (by omega))).mono fun e w' ⟨q, g, he, hc, hbl⟩ => ⟨q, g, he, fun p r => ?_, hbl⟩
    obtain ⟨rfl, rfl⟩ := hc p r
    refine ⟨rfl, ?_⟩
    rw [if_pos rfl, if_pos rfl, ba_inj, po22_near, pz22, pz22]
end Go.Proofs.YtefobkgifigclaaGreatDoor
