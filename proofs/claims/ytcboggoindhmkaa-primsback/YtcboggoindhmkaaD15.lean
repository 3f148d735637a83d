/- The contracts of package ber, in the form that the laws ask. -/
import Derived.Test.YtcboggoindhmkaaDj15
namespace Go.Proofs.Ytcboggoindhmkaa
open Go.RowKit

/-- What the package's variables hold (there are none). -/
def Ly (_w : World) : Prop := True
theorem Ly.keep {B : Nat} {w w' : World} (_ : Ly w) (_ : Below B w w') : Ly w' := trivial
theorem bcheck_any (e : El) (v : Value) (w : World) (_ : Ly w) (hV : ElV w e v) : Calls Try.prog 35 #[v] w fun r w' => r = .returned (.int .i64 (chkB e)) ∧ Below w.heap.size w w' :=
  (pcheck_any e v w hV).mono fun _ _ h => ⟨h.1, h.2.below⟩
theorem bdeep_any (e : El) (v : Value) (w : World) (_ : Ly w) (hV : ElV w e v) : Calls Try.prog 42 #[v] w fun r w' => r = .returned (.int .i64 (deepE e 13)) ∧ Below w.heap.size w w' :=
  (pdeep_any e v w hV).mono fun _ _ h => ⟨h.1, h.2.below⟩
theorem bencode_any (l : List El) (v : Value) (w : World) (_ : Ly w) (hV : ElsV w v l) : Calls Try.prog 27 #[v] w fun r w' => r = .returned (.tuple #[.string (encS l), .int .i64 (encE l)]) ∧ Below w.heap.size w w' := pencode_any l v w hV
theorem bdecode_any (s : ByteArray) (at_ : Int) (w : World) (_ : Ly w) (hs : s.size ≤ 10000) (_ : -9223372036854775808 ≤ at_) (_ : at_ ≤ 9223372036854775807) : Calls Try.prog 28 #[.string s, .int .i64 at_] w fun r w' => ∃ v, r = .returned (.tuple #[v, .int .i64 (decB (nums s) at_).2.1, .int .i64 (decB (nums s) at_).2.2]) ∧ ElP (In w.heap.size w') w' (decB (nums s) at_).1 v ∧ Below w.heap.size w w' := pdecode_any s at_ w hs
end Go.Proofs.Ytcboggoindhmkaa
