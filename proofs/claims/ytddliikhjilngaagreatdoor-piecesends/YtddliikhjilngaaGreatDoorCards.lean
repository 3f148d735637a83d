/-
  DERIVED. GIVEN WITH THE SEED: THE CARDS: each row of YtddliikhjilngaaGreatDoorRows.lean that lists a variable, with what it lists TIED to the program's text (the seventh form; the later family's looks); each row that meets fmt, with fmt's text TOLD by the authors' own Lean function (tested against real Go, not proved from fmt's source: count such statements apart). THE CARD IS WHAT COUNTS. Prove the row's statement (the work); the ties are given (YtddliikhjilngaaGreatDoorTie.lean); close each card by the builder's one call (the guide's Derived/Test/ToyasCard.lean, 'card_holds'). Laid BY PROGRAM, IN A SANDBOX (cutbox-door.mjs). By AI agents, Wed Nov 11 2026. No macro, syntax, notation, axiom, sorry.
-/
import Derived.Test.YtddliikhjilngaaGreatDoorRows
import GoSem.ClaimSeven
namespace Go.Proofs.YtddliikhjilngaaGreatDoor
namespace Rows

/-- THE TIED CARD OF 'toponymlaw13.PiecesCut'. -/
def piecesCutCard : Claim7 := { stood := { row := piecesCutRow, standIns := [], harness := (true, "e06f59b127a993be77050e069c6d676e52c2537c669275bdd17ac3e05b3670fd"), looks := false }, kinds := [], alts := [], laidByText := true, laidKinds := [.data, .data, .data, .data, .data, .data, .pinned, .pinned], laidTests := true, laidLooks := .later }
def PiecesCutCardSaid : Prop := Claim7.holds Tryz.pinned (.plain (OpenSpec.ofChange piecesCutSpec)) piecesCutCard

/-- THE TIED CARD OF 'toponymlaw13.PiecesEnds'. -/
def piecesEndsCard : Claim7 := { stood := { row := piecesEndsRow, standIns := [], harness := (true, "e06f59b127a993be77050e069c6d676e52c2537c669275bdd17ac3e05b3670fd"), looks := false }, kinds := [], alts := [], laidByText := true, laidKinds := [.data, .data, .data, .data, .data, .data, .pinned, .pinned], laidTests := true, laidLooks := .later }
def PiecesEndsCardSaid : Prop := Claim7.holds Tryz.pinned (.plain (OpenSpec.ofChange piecesEndsSpec)) piecesEndsCard

/-- THE TIED CARD OF 'toponymlaw13.PiecesMore'. -/
def piecesMoreCard : Claim7 := { stood := { row := piecesMoreRow, standIns := [], harness := (true, "e06f59b127a993be77050e069c6d676e52c2537c669275bdd17ac3e05b3670fd"), looks := false }, kinds := [], alts := [], laidByText := true, laidKinds := [.data, .data, .data, .data, .data, .data, .pinned, .pinned], laidTests := true, laidLooks := .later }
def PiecesMoreCardSaid : Prop := Claim7.holds Tryz.pinned (.plain (OpenSpec.ofChange piecesMoreSpec)) piecesMoreCard

/-- THE SECOND FORM's CARD OF 'toponymlaw13.PiecesCut'. -/
def piecesCutUptoCard : Claim7 := { stood := { row := piecesCutUptoRow, standIns := [], harness := (true, "e06f59b127a993be77050e069c6d676e52c2537c669275bdd17ac3e05b3670fd"), looks := false }, kinds := [], alts := [], laidByText := true, laidKinds := [.data, .data, .data, .data, .data, .data, .pinned, .pinned], laidTests := true, laidLooks := .later }
def PiecesCutUptoCardSaid : Prop := Claim7.holds Tryz.pinned (.plain (OpenSpec.upto piecesCutSpec)) piecesCutUptoCard

/-- THE SECOND FORM's CARD OF 'toponymlaw13.PiecesEnds'. -/
def piecesEndsUptoCard : Claim7 := { stood := { row := piecesEndsUptoRow, standIns := [], harness := (true, "e06f59b127a993be77050e069c6d676e52c2537c669275bdd17ac3e05b3670fd"), looks := false }, kinds := [], alts := [], laidByText := true, laidKinds := [.data, .data, .data, .data, .data, .data, .pinned, .pinned], laidTests := true, laidLooks := .later }
def PiecesEndsUptoCardSaid : Prop := Claim7.holds Tryz.pinned (.plain (OpenSpec.upto piecesEndsSpec)) piecesEndsUptoCard

/-- THE SECOND FORM's CARD OF 'toponymlaw13.PiecesMore'. -/
def piecesMoreUptoCard : Claim7 := { stood := { row := piecesMoreUptoRow, standIns := [], harness := (true, "e06f59b127a993be77050e069c6d676e52c2537c669275bdd17ac3e05b3670fd"), looks := false }, kinds := [], alts := [], laidByText := true, laidKinds := [.data, .data, .data, .data, .data, .data, .pinned, .pinned], laidTests := true, laidLooks := .later }
def PiecesMoreUptoCardSaid : Prop := Claim7.holds Tryz.pinned (.plain (OpenSpec.upto piecesMoreSpec)) piecesMoreUptoCard
end Rows
end Go.Proofs.YtddliikhjilngaaGreatDoor
