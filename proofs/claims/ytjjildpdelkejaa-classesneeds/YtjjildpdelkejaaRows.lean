/-
  No cell of these rows narrows 'for every input' (looked for: loops, veiled, ifaces, maps, wideKeys, modest, calm, conditions, laid).
  DERIVED. THE GIVEN ROWS OF THIS SEAT. 5 by the template 'for every input the law returns true; each argument reads behind the call as it read before'; 0 by the template 'total and deterministic' (their statements: YtjjildpdelkejaaTotals.lean).
  GIVEN WITH THE SEED: the statements are not yours to turn. If you find one false, say at which input.
  Laid BY PROGRAM, IN A SANDBOX (cutbox-rows.mjs): the forced cells as the released guide's own fill.sh prints them over the translation 7f95d05257b39f6a… (all of the seat's roots in one cut). By AI agents, Wed Nov 11 2026. No macro, syntax, notation, axiom, sorry.
-/
import Derived.Test.YtjjildpdelkejaaChecked
import GoSem.Claim
import GoSem.ClaimJoined
import GoSem.ClaimMapViews
import Derived.JoinedTies
import Derived.KernelRfl
namespace Go.Proofs.Ytjjildpdelkejaa
/- THE CELL 'sum', in the pinned program and in every row, IS THE sha256 OF THE DUMP (.gsa) THAT YtjjildpdelkejaaProg.lean LOADS. Nothing in Lean hashes anything: it is a label: what it is worth is what the hold of that sum in a sandbox is worth. -/
noncomputable def Try.pinned : Pinned := { name := "ytjjildpdelkejaa", sum := "7f95d05257b39f6ab5cc06afa68f77462ae905c5e1584227150517b73330f45d", checked := Try.checked }
namespace Rows
def none {H : Type} : Left H := { results := [], args := [] }

/-- 'toponymlaw21.ClassesChecks': WHATEVER THE INPUT: true; the input reads as it did. -/
def classesChecksSpec : ChangeSpec := { name := "classesChecks", fn := fun _ => fun
  | [d1, d2] => { results := [.lit (.bool true)], args := [d1, d2] }
  | _ => none }
def classesChecksRow : OpenClaim := { program := "ytjjildpdelkejaa", sum := "7f95d05257b39f6ab5cc06afa68f77462ae905c5e1584227150517b73330f45d", func := "toponym/toponymlaw21.ClassesChecks", spec := "classesChecks", unfollowed := true, recurses := true, apart := false }
def ClassesChecksSaid : Prop := classesChecksRow.holds Try.pinned (OpenSpec.ofChange classesChecksSpec)

/-- ITS FALSE NEIGHBOUR: 'it returns false'. Refute it at one input. -/
def classesChecksWrong : ChangeSpec := { name := "classesChecks", fn := fun _ => fun
  | [d1, d2] => { results := [.lit (.bool false)], args := [d1, d2] }
  | _ => none }
def ClassesChecksWrongFalsely : Prop := classesChecksRow.holds Try.pinned (OpenSpec.ofChange classesChecksWrong)

/-- 'toponymlaw21.ClassesNeeds': WHATEVER THE INPUT: true; the input reads as it did. -/
def classesNeedsSpec : ChangeSpec := { name := "classesNeeds", fn := fun _ => fun
  | [d1, d2] => { results := [.lit (.bool true)], args := [d1, d2] }
  | _ => none }
def classesNeedsRow : OpenClaim := { program := "ytjjildpdelkejaa", sum := "7f95d05257b39f6ab5cc06afa68f77462ae905c5e1584227150517b73330f45d", func := "toponym/toponymlaw21.ClassesNeeds", spec := "classesNeeds", unfollowed := true, recurses := true, apart := false }
def ClassesNeedsSaid : Prop := classesNeedsRow.holds Try.pinned (OpenSpec.ofChange classesNeedsSpec)

/-- ITS FALSE NEIGHBOUR: 'it returns false'. Refute it at one input. -/
def classesNeedsWrong : ChangeSpec := { name := "classesNeeds", fn := fun _ => fun
  | [d1, d2] => { results := [.lit (.bool false)], args := [d1, d2] }
  | _ => none }
def ClassesNeedsWrongFalsely : Prop := classesNeedsRow.holds Try.pinned (OpenSpec.ofChange classesNeedsWrong)

/-- 'toponymlaw21.ClassesFit': WHATEVER THE INPUT: true; the input reads as it did. -/
def classesFitSpec : ChangeSpec := { name := "classesFit", fn := fun _ => fun
  | [d1, d2, d3] => { results := [.lit (.bool true)], args := [d1, d2, d3] }
  | _ => none }
def classesFitRow : OpenClaim := { program := "ytjjildpdelkejaa", sum := "7f95d05257b39f6ab5cc06afa68f77462ae905c5e1584227150517b73330f45d", func := "toponym/toponymlaw21.ClassesFit", spec := "classesFit", unfollowed := true, recurses := true, apart := false }
def ClassesFitSaid : Prop := classesFitRow.holds Try.pinned (OpenSpec.ofChange classesFitSpec)

/-- ITS FALSE NEIGHBOUR: 'it returns false'. Refute it at one input. -/
def classesFitWrong : ChangeSpec := { name := "classesFit", fn := fun _ => fun
  | [d1, d2, d3] => { results := [.lit (.bool false)], args := [d1, d2, d3] }
  | _ => none }
def ClassesFitWrongFalsely : Prop := classesFitRow.holds Try.pinned (OpenSpec.ofChange classesFitWrong)

/-- 'toponymlaw21.ClassesMore': WHATEVER THE INPUT: true; the input reads as it did. -/
def classesMoreSpec : ChangeSpec := { name := "classesMore", fn := fun _ => fun
  | [d1, d2, d3] => { results := [.lit (.bool true)], args := [d1, d2, d3] }
  | _ => none }
def classesMoreRow : OpenClaim := { program := "ytjjildpdelkejaa", sum := "7f95d05257b39f6ab5cc06afa68f77462ae905c5e1584227150517b73330f45d", func := "toponym/toponymlaw21.ClassesMore", spec := "classesMore", unfollowed := true, recurses := true, apart := false }
def ClassesMoreSaid : Prop := classesMoreRow.holds Try.pinned (OpenSpec.ofChange classesMoreSpec)

/-- ITS FALSE NEIGHBOUR: 'it returns false'. Refute it at one input. -/
def classesMoreWrong : ChangeSpec := { name := "classesMore", fn := fun _ => fun
  | [d1, d2, d3] => { results := [.lit (.bool false)], args := [d1, d2, d3] }
  | _ => none }
def ClassesMoreWrongFalsely : Prop := classesMoreRow.holds Try.pinned (OpenSpec.ofChange classesMoreWrong)

/-- 'toponymlaw21.ClassesLess': WHATEVER THE INPUT: true; the input reads as it did. -/
def classesLessSpec : ChangeSpec := { name := "classesLess", fn := fun _ => fun
  | [d1, d2, d3] => { results := [.lit (.bool true)], args := [d1, d2, d3] }
  | _ => none }
def classesLessRow : OpenClaim := { program := "ytjjildpdelkejaa", sum := "7f95d05257b39f6ab5cc06afa68f77462ae905c5e1584227150517b73330f45d", func := "toponym/toponymlaw21.ClassesLess", spec := "classesLess", unfollowed := true, recurses := true, apart := false }
def ClassesLessSaid : Prop := classesLessRow.holds Try.pinned (OpenSpec.ofChange classesLessSpec)

/-- ITS FALSE NEIGHBOUR: 'it returns false'. Refute it at one input. -/
def classesLessWrong : ChangeSpec := { name := "classesLess", fn := fun _ => fun
  | [d1, d2, d3] => { results := [.lit (.bool false)], args := [d1, d2, d3] }
  | _ => none }
def ClassesLessWrongFalsely : Prop := classesLessRow.holds Try.pinned (OpenSpec.ofChange classesLessWrong)

/- THE SECOND FORM. 'bulk': how many values and letters a reading holds, each counted each time it is reached (what is shared counts as often as it is met; a slice's spare places count too). A statement '..UptoSaid' is the law's where the arguments, and the package variables that the reading takes, are together of bulk at most 1048576: NARROWER than '..Said'. Prove '..Said' where nothing that the law and all that it calls make is longer than what came in: it says more and counts as full. Else prove '..UptoSaid'. A law counts once. -/
mutual
def uptoBulk {H : Type} : DataW H → Nat
  | .lit (.string bytes) => bytes.length + 1
  | .lit _ => 1
  | .nil => 1
  | .ptr d => uptoBulk d + 1
  | .slice elems spare => uptoBulkAll elems + uptoBulkAll spare + 1
  | .agg parts => uptoBulkAll parts + 1
  | .iface _ d => uptoBulk d + 1
  | .map entries => uptoBulkEntries entries + 1
  | .held _ => 1
def uptoBulkAll {H : Type} : List (DataW H) → Nat
  | [] => 0
  | d :: r => uptoBulk d + uptoBulkAll r
def uptoBulkEntries {H : Type} : List (Lit × DataW H) → Nat
  | [] => 0
  | x :: r => uptoBulkEntry x + uptoBulkEntries r
def uptoBulkEntry {H : Type} : Lit × DataW H → Nat
  | (.string bytes, d) => bytes.length + uptoBulk d + 1
  | (_, d) => uptoBulk d + 1
 end
def uptoSmall : (H : Type) → List (DataW H) → Bool := fun _ ds => decide (uptoBulkAll ds ≤ 1048576)
def OpenSpec.upto (s : _root_.Go.ChangeSpec) : _root_.Go.OpenSpec := { _root_.Go.OpenSpec.ofChange s with cond := some uptoSmall }

/-- 'toponymlaw21.ClassesChecks', WHERE WHAT IT READS IS OF BULK AT MOST 1048576: true; the input reads as it did. -/
def classesChecksUptoRow : OpenClaim := { program := "ytjjildpdelkejaa", sum := "7f95d05257b39f6ab5cc06afa68f77462ae905c5e1584227150517b73330f45d", func := "toponym/toponymlaw21.ClassesChecks", spec := "classesChecks", unfollowed := true, recurses := true, apart := false, narrowed := true }
def ClassesChecksUptoSaid : Prop := classesChecksUptoRow.holds Try.pinned (OpenSpec.upto classesChecksSpec)

/-- 'toponymlaw21.ClassesNeeds', WHERE WHAT IT READS IS OF BULK AT MOST 1048576: true; the input reads as it did. -/
def classesNeedsUptoRow : OpenClaim := { program := "ytjjildpdelkejaa", sum := "7f95d05257b39f6ab5cc06afa68f77462ae905c5e1584227150517b73330f45d", func := "toponym/toponymlaw21.ClassesNeeds", spec := "classesNeeds", unfollowed := true, recurses := true, apart := false, narrowed := true }
def ClassesNeedsUptoSaid : Prop := classesNeedsUptoRow.holds Try.pinned (OpenSpec.upto classesNeedsSpec)

/-- 'toponymlaw21.ClassesFit', WHERE WHAT IT READS IS OF BULK AT MOST 1048576: true; the input reads as it did. -/
def classesFitUptoRow : OpenClaim := { program := "ytjjildpdelkejaa", sum := "7f95d05257b39f6ab5cc06afa68f77462ae905c5e1584227150517b73330f45d", func := "toponym/toponymlaw21.ClassesFit", spec := "classesFit", unfollowed := true, recurses := true, apart := false, narrowed := true }
def ClassesFitUptoSaid : Prop := classesFitUptoRow.holds Try.pinned (OpenSpec.upto classesFitSpec)

/-- 'toponymlaw21.ClassesMore', WHERE WHAT IT READS IS OF BULK AT MOST 1048576: true; the input reads as it did. -/
def classesMoreUptoRow : OpenClaim := { program := "ytjjildpdelkejaa", sum := "7f95d05257b39f6ab5cc06afa68f77462ae905c5e1584227150517b73330f45d", func := "toponym/toponymlaw21.ClassesMore", spec := "classesMore", unfollowed := true, recurses := true, apart := false, narrowed := true }
def ClassesMoreUptoSaid : Prop := classesMoreUptoRow.holds Try.pinned (OpenSpec.upto classesMoreSpec)

/-- 'toponymlaw21.ClassesLess', WHERE WHAT IT READS IS OF BULK AT MOST 1048576: true; the input reads as it did. -/
def classesLessUptoRow : OpenClaim := { program := "ytjjildpdelkejaa", sum := "7f95d05257b39f6ab5cc06afa68f77462ae905c5e1584227150517b73330f45d", func := "toponym/toponymlaw21.ClassesLess", spec := "classesLess", unfollowed := true, recurses := true, apart := false, narrowed := true }
def ClassesLessUptoSaid : Prop := classesLessUptoRow.holds Try.pinned (OpenSpec.upto classesLessSpec)

end Rows
end Go.Proofs.Ytjjildpdelkejaa
