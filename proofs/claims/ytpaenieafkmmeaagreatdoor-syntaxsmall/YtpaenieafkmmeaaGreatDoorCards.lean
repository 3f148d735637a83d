/-
  DERIVED. GIVEN WITH THE SEED: THE CARDS: each row of YtpaenieafkmmeaaGreatDoorRows.lean that lists a variable, with what it lists TIED to the program's text (the seventh form; the later family's looks); each row that meets fmt, with fmt's text TOLD by the authors' own Lean function (tested against real Go, not proved from fmt's source: count such statements apart). THE CARD IS WHAT COUNTS. Prove the row's statement (the work); the ties are given (YtpaenieafkmmeaaGreatDoorTie.lean); close each card by the builder's one call (the guide's Derived/Test/ToyasCard.lean, 'card_holds'). Laid BY PROGRAM, IN A SANDBOX (cutbox-door.mjs). By AI agents, Wed Nov 11 2026. No macro, syntax, notation, axiom, sorry.
-/
import Derived.Test.YtpaenieafkmmeaaGreatDoorRows
import GoSem.ClaimSeven
namespace Go.Proofs.YtpaenieafkmmeaaGreatDoor
namespace Rows

/-- THE TIED CARD OF 'toponymlaw19.SyntaxExact'. -/
def syntaxExactCard : Claim7 := { stood := { row := syntaxExactRow, standIns := [], harness := (true, "0340387e5b9796f003e01b2fe100dffb4a5243d0144d4049e62d008bda2cc709"), looks := true }, kinds := [], alts := [], laidByText := true, laidKinds := [.data, .data, .data, .data, .data, .sentinel, .sentinel, .data, .data, .data, .data, .pinned, .pinned], laidTests := true, laidLooks := .later }
def SyntaxExactCardSaid : Prop := Claim7.holds Tryz.pinned (.plain (OpenSpec.ofChange syntaxExactSpec)) syntaxExactCard

/-- THE TIED CARD OF 'toponymlaw19.SyntaxSmall'. -/
def syntaxSmallCard : Claim7 := { stood := { row := syntaxSmallRow, standIns := [], harness := (true, "0340387e5b9796f003e01b2fe100dffb4a5243d0144d4049e62d008bda2cc709"), looks := true }, kinds := [], alts := [], laidByText := true, laidKinds := [.data, .data, .data, .data, .data, .sentinel, .sentinel, .data, .data, .data, .data, .pinned, .pinned], laidTests := true, laidLooks := .later }
def SyntaxSmallCardSaid : Prop := Claim7.holds Tryz.pinned (.plain (OpenSpec.ofChange syntaxSmallSpec)) syntaxSmallCard

/-- THE SECOND FORM's CARD OF 'toponymlaw19.SyntaxExact'. -/
def syntaxExactUptoCard : Claim7 := { stood := { row := syntaxExactUptoRow, standIns := [], harness := (true, "0340387e5b9796f003e01b2fe100dffb4a5243d0144d4049e62d008bda2cc709"), looks := true }, kinds := [], alts := [], laidByText := true, laidKinds := [.data, .data, .data, .data, .data, .sentinel, .sentinel, .data, .data, .data, .data, .pinned, .pinned], laidTests := true, laidLooks := .later }
def SyntaxExactUptoCardSaid : Prop := Claim7.holds Tryz.pinned (.plain (OpenSpec.upto syntaxExactSpec)) syntaxExactUptoCard

/-- THE SECOND FORM's CARD OF 'toponymlaw19.SyntaxSmall'. -/
def syntaxSmallUptoCard : Claim7 := { stood := { row := syntaxSmallUptoRow, standIns := [], harness := (true, "0340387e5b9796f003e01b2fe100dffb4a5243d0144d4049e62d008bda2cc709"), looks := true }, kinds := [], alts := [], laidByText := true, laidKinds := [.data, .data, .data, .data, .data, .sentinel, .sentinel, .data, .data, .data, .data, .pinned, .pinned], laidTests := true, laidLooks := .later }
def SyntaxSmallUptoCardSaid : Prop := Claim7.holds Tryz.pinned (.plain (OpenSpec.upto syntaxSmallSpec)) syntaxSmallUptoCard
end Rows
end Go.Proofs.YtpaenieafkmmeaaGreatDoor
