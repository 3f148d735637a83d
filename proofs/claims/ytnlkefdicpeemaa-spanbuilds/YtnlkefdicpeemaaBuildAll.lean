/- Build, of any spans that may be. -/
import Derived.Test.YtnlkefdicpeemaaBldM
import Derived.Test.YtnlkefdicpeemaaBuild
import Derived.Test.YtnlkefdicpeemaaPdq
import Derived.Test.YtnlkefdicpeemaaAwake
namespace Go.Proofs.Ytnlkefdicpeemaa
open Go.RowKit

theorem tb_chk {t : List Sp} (h : isTb t) (hl : t.length ≤ 500) : chk t = 0 := chk_ok hl h
theorem build_all (v : Value) (l : List Sp) (w : World) (h : Tab w v l) (hl : l.length ≤ 200) (hm : allMay l = true) :
    Calls Try.prog 15 #[v] w fun e w' => ∃ (u : Value) (t : List Sp), e = .returned (.tuple #[u, .int .i64 0]) ∧ Hid (isTb t ∧ t.length ≤ 500 ∧ ∀ r, fnd t r = lastV l r) ∧ Hid (Tab w' u t) ∧ Below w.heap.size w w' :=
  (build_yes v l w h hl hm (sort_does _ (by rw [List.size_toArray, edsTo_length]; omega))).mono fun _ _ ⟨u, es, h1, h2, h3, h4, h5, h6⟩ => by
    obtain ⟨t1, t2⟩ := bld_tells (fun k hk => allMay_at hm k hk) h2 h4
    exact ⟨u, _, h1, hide ⟨t1, Nat.le_trans (bld_length l es es.length) (by omega), t2⟩, h5, h6⟩

theorem lastV_take (l : List Sp) (r : Int) (k : Nat) (hk : k < l.length) : lastV (l.take (k + 1)) r = if inS (l.getD k sp0) r = true then (l.getD k sp0).h else lastV (l.take k) r := by
  have e : l.take (k + 1) = l.take k ++ [l.getD k sp0] := by
    rw [List.take_add_one]; simp [List.getD, hk]
  rw [e]
  unfold lastV
  rw [List.reverse_append]
  simp only [List.reverse_cons, List.reverse_nil, List.nil_append, List.singleton_append, List.find?_cons]
  cases h : inS (l.getD k sp0) r <;> simp
end Go.Proofs.Ytnlkefdicpeemaa
