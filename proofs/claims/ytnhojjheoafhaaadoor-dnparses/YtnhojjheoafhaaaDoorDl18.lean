/- The landed readPair of layer 18. -/
import Derived.Test.YtnhojjheoafhaaaDoorDk18
import Derived.Laws.Rows
namespace Go.Proofs.YtnhojjheoafhaaaDoor
set_option maxRecDepth 100000
open Go.RowKit

/-- A box of a pair. -/
def Bp (b : Nat) (x y : ByteArray) (w : World) : Prop := w.heap[b]? = some (.cells #[.string x, .string y] 44)
theorem Bp.keep {b : Nat} {x y : ByteArray} {w w2 : World} (h : Bp b x y w) (hb : Below w.heap.size w w2) : Bp b x y w2 := (hb.block _ (blk_lt h)).trans h
theorem Bp.free {b : Nat} {x y : ByteArray} {w : World} (h : Bp b x y w) (o : Nat) : w.frozen? ⟨b, o, none⟩ = false := by
  unfold World.frozen?
  rw [show w.heap[(⟨b, o, none⟩ : Addr).block]? = w.heap[b]? from rfl, h]
  simp
theorem Bp.put {b : Nat} {x y : ByteArray} {w : World} (h : Bp b x y w) (x' y' : ByteArray) : Bp b x' y' ((w.setCell ⟨b, 0, none⟩ (.string x')).setCell ⟨b, 1, none⟩ (.string y')) := by
  unfold Bp at *
  have h1 := heap_setCell_same w b 0 _ _ (.string x') h
  have h2 := heap_setCell_same _ b 1 _ _ (.string y') h1
  rw [h2]
  rfl
theorem res_cell3 {fn : Func} {p q r : Tmp} (h : fn.results = #[.cell p 44, .tmp q, .tmp r]) (tmps : Array Value) (w : World) (g : Nat) (x y : ByteArray) (hp : tmps.getD p undef = .pointer (some ⟨g, 0, none⟩)) (hg : Bp g x y w) :
    (results fn tmps).run Tryd.prog w = .ok (.tuple #[.agg #[.string x, .string y], tmps.getD q undef, tmps.getD r undef]) w := by
  have hp' : tmps[p]?.getD undef = .pointer (some ⟨g, 0, none⟩) := by simpa using hp
  have hl := run_loadVar_row (P := Tryd.prog) w g 44 44 #[.string x, .string y] (0, 0) _ hg Tryd.underlying44 rfl (by kernel_rfl)
  simp [results, h, hp', asAddr, hl]
theorem res_cell2 {fn : Func} {p q : Tmp} (h : fn.results = #[.cell p 44, .tmp q]) (tmps : Array Value) (w : World) (g : Nat) (x y : ByteArray) (hp : tmps.getD p undef = .pointer (some ⟨g, 0, none⟩)) (hg : Bp g x y w) :
    (results fn tmps).run Tryd.prog w = .ok (.tuple #[.agg #[.string x, .string y], tmps.getD q undef]) w := by
  have hp' : tmps[p]?.getD undef = .pointer (some ⟨g, 0, none⟩) := by simpa using hp
  have hl := run_loadVar_row (P := Tryd.prog) w g 44 44 #[.string x, .string y] (0, 0) _ hg Tryd.underlying44 rfl (by kernel_rfl)
  simp [results, h, hp', asAddr, hl]
/-- What readPair tells, against what is read. -/
def rpOk (l : List Int) (x y r : ByteArray) (ok : Bool) : Prop := match pairL l with
  | none => ok = false
  | some (p, X) => ok = true ∧ x = p.nam ∧ y = p.val ∧ nums r = X
theorem rp_of {l u t : List Int} {a y r : ByteArray} {ok : Bool} (hc : cutE l = (u, t)) (h : rvOk t y r ok) (ha : a = strOfNums (u.map smlC)) : rpOk l a y r ok := by
  unfold rpOk pairL
  unfold rvOk at h
  rw [hc]
  simp only
  cases hv : valL true false t with
  | none => rw [hv] at h; simpa using h
  | some v =>
    rw [hv] at h
    simp only [Option.map_some] at h ⊢
    exact ⟨h.1, ha, h.2.1, h.2.2⟩
set_option maxHeartbeats 3200000 in
theorem rpair_any (s : ByteArray) (w : World) (hL : Ly w) (hs : s.size ≤ 100000) :
    Calls Tryd.prog 18 #[.string s] w fun e w' => ∃ x y r ok, e = .returned (.tuple #[.agg #[.string x, .string y], .string r, .bool ok]) ∧ rpOk (nums s) x y r ok ∧ Below w.heap.size w w' := by
  have HL := hide hL
  clear hL
  have CC := hide (fun W => cut_any s W hs)
  have CV := hide (fun t W hL (h : t.size ≤ s.size) => rvalue_any t W hL (by omega))
  have CS := hide (fun t W (h : t.size ≤ s.size) => small_any t W (by omega))
  have B0 : Hid (Bp w.heap.size ⟨#[]⟩ ⟨#[]⟩ (w.alloc (.cells #[.string ⟨#[]⟩, .string ⟨#[]⟩] 44))) := heap_new w _
  have b0 := Below.one w (.cells #[.string ⟨#[]⟩, .string ⟨#[]⟩] 44)
  go_enter Tryd.func18, Tryd.ntmps18
  go_wp2_with (first
    | (go_at_call 29; refine (unhide CS _ _ (unhide H2)).mono ?_; rintro e w5 ⟨rfl, b5⟩; have B5 := hide ((unhide B4).keep b5); have c50 := blk_cell (unhide B5) 0; have c51 := blk_cell (unhide B5) 1; have f50 := (unhide B5).free 0; have f51 := (unhide B5).free 1; have BL := hide (b034.trans (b5.mono b034.size)))
    | (go_at_call 28; refine (unhide CV _ _ ((unhide HL).keep b03) (unhide H3)).mono ?_; rintro e w4 ⟨y, r, ok, rfl, h4, b4⟩; have H4 := hide h4; clear h4; have B4 := hide ((unhide B3).keep b4); have b034 := b03.trans (b4.mono b03.size))
    | (go_at_call 27; refine (unhide CC _).mono ?_; rintro e w3 ⟨a, b, f, rfl, h1, h2, h3, g3⟩; have H1 := hide h1; have H2 := hide h2; have H3 := hide h3; clear h1 h2 h3; have B3 := hide ((unhide B0).keep g3.below); have b03 := b0.trans (g3.below.mono b0.size)))
  refine bodyPost_ret (res_cell3 rfl _ _ w.heap.size _ _ rfl ((unhide B5).put _ _)) rfl ?_
  exact ⟨_, _, _, _, rfl, rp_of (unhide H1) (unhide H4) rfl, ((unhide BL).setCell (Nat.le_refl _) _).setCell (Nat.le_refl _) _⟩
end Go.Proofs.YtnhojjheoafhaaaDoor
