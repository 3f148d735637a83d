/-
  DERIVED. GIVEN WITH THE SEED: THE CARDS: each row of YtbffmopenjjjlaaDoorRows.lean that lists a variable, with what it lists TIED to the program's text (the seventh form; the later family's looks); each row that meets fmt, with fmt's text TOLD by the authors' own Lean function (tested against real Go, not proved from fmt's source: count such statements apart). THE CARD IS WHAT COUNTS. Prove the row's statement (the work); the ties are given (YtbffmopenjjjlaaDoorTie.lean); close each card by the builder's one call (the guide's Derived/Test/ToyasCard.lean, 'card_holds'). Laid BY PROGRAM, IN A SANDBOX (cutbox-door.mjs). By AI agents, Wed Nov 11 2026. No macro, syntax, notation, axiom, sorry.
-/
import Derived.Test.YtbffmopenjjjlaaDoorRows
import GoSem.ClaimSeven
namespace Go.Proofs.YtbffmopenjjjlaaDoor
namespace Rows

/-- THE TIED CARD OF 'toponymlaw09.FoldOnes'. -/
def foldOnesCard : Claim7 := { stood := { row := foldOnesRow, standIns := [], harness := (true, "612399a5e7d802f5ebc1bc75333279f8c5776711d7efcbdecfc3b8e72f7978d8"), looks := false }, kinds := [], alts := [], laidByText := true, laidKinds := [.data], laidTests := true, laidLooks := .later }
def FoldOnesCardSaid : Prop := Claim7.holds Tryd.pinned (.plain (OpenSpec.ofChange foldOnesSpec)) foldOnesCard

/-- THE TIED CARD OF 'toponymlaw09.FoldMaps'. -/
def foldMapsCard : Claim7 := { stood := { row := foldMapsRow, standIns := [], harness := (true, "612399a5e7d802f5ebc1bc75333279f8c5776711d7efcbdecfc3b8e72f7978d8"), looks := false }, kinds := [], alts := [], laidByText := true, laidKinds := [.data], laidTests := true, laidLooks := .later }
def FoldMapsCardSaid : Prop := Claim7.holds Tryd.pinned (.plain (OpenSpec.ofChange foldMapsSpec)) foldMapsCard

/-- THE TIED CARD OF 'toponymlaw09.FoldClosed'. -/
def foldClosedCard : Claim7 := { stood := { row := foldClosedRow, standIns := [], harness := (true, "612399a5e7d802f5ebc1bc75333279f8c5776711d7efcbdecfc3b8e72f7978d8"), looks := false }, kinds := [], alts := [], laidByText := true, laidKinds := [.data, .data, .data, .data, .data, .pinned, .pinned], laidTests := true, laidLooks := .later }
def FoldClosedCardSaid : Prop := Claim7.holds Tryd.pinned (.plain (OpenSpec.ofChange foldClosedSpec)) foldClosedCard

/-- THE TIED CARD OF 'toponymlaw09.FoldAgain'. -/
def foldAgainCard : Claim7 := { stood := { row := foldAgainRow, standIns := [], harness := (true, "612399a5e7d802f5ebc1bc75333279f8c5776711d7efcbdecfc3b8e72f7978d8"), looks := false }, kinds := [], alts := [], laidByText := true, laidKinds := [.data], laidTests := true, laidLooks := .later }
def FoldAgainCardSaid : Prop := Claim7.holds Tryd.pinned (.plain (OpenSpec.ofChange foldAgainSpec)) foldAgainCard

/-- THE SECOND FORM's CARD OF 'toponymlaw09.FoldOnes'. -/
def foldOnesUptoCard : Claim7 := { stood := { row := foldOnesUptoRow, standIns := [], harness := (true, "612399a5e7d802f5ebc1bc75333279f8c5776711d7efcbdecfc3b8e72f7978d8"), looks := false }, kinds := [], alts := [], laidByText := true, laidKinds := [.data], laidTests := true, laidLooks := .later }
def FoldOnesUptoCardSaid : Prop := Claim7.holds Tryd.pinned (.plain (OpenSpec.upto foldOnesSpec)) foldOnesUptoCard

/-- THE SECOND FORM's CARD OF 'toponymlaw09.FoldMaps'. -/
def foldMapsUptoCard : Claim7 := { stood := { row := foldMapsUptoRow, standIns := [], harness := (true, "612399a5e7d802f5ebc1bc75333279f8c5776711d7efcbdecfc3b8e72f7978d8"), looks := false }, kinds := [], alts := [], laidByText := true, laidKinds := [.data], laidTests := true, laidLooks := .later }
def FoldMapsUptoCardSaid : Prop := Claim7.holds Tryd.pinned (.plain (OpenSpec.upto foldMapsSpec)) foldMapsUptoCard

/-- THE SECOND FORM's CARD OF 'toponymlaw09.FoldClosed'. -/
def foldClosedUptoCard : Claim7 := { stood := { row := foldClosedUptoRow, standIns := [], harness := (true, "612399a5e7d802f5ebc1bc75333279f8c5776711d7efcbdecfc3b8e72f7978d8"), looks := false }, kinds := [], alts := [], laidByText := true, laidKinds := [.data, .data, .data, .data, .data, .pinned, .pinned], laidTests := true, laidLooks := .later }
def FoldClosedUptoCardSaid : Prop := Claim7.holds Tryd.pinned (.plain (OpenSpec.upto foldClosedSpec)) foldClosedUptoCard

/-- THE SECOND FORM's CARD OF 'toponymlaw09.FoldAgain'. -/
def foldAgainUptoCard : Claim7 := { stood := { row := foldAgainUptoRow, standIns := [], harness := (true, "612399a5e7d802f5ebc1bc75333279f8c5776711d7efcbdecfc3b8e72f7978d8"), looks := false }, kinds := [], alts := [], laidByText := true, laidKinds := [.data], laidTests := true, laidLooks := .later }
def FoldAgainUptoCardSaid : Prop := Claim7.holds Tryd.pinned (.plain (OpenSpec.upto foldAgainSpec)) foldAgainUptoCard
end Rows
end Go.Proofs.YtbffmopenjjjlaaDoor
